/- Layer 5: a call on both: kind 3, a get. -/
import Derived.Test.YtnjoojffefhgpaaMPJ
namespace Go.Proofs.Ytnjoojffefhgpaa
open Go.Conc Go.RowKit
set_option linter.unusedVariables false

theorem get_range (k : ByteArray) : ∀ (os : List Ob), (∀ o ∈ os, o.data.size ≤ 1000) → rangeR k 0 1000 os = getR k os := by
  intro os h
  unfold rangeR getR
  cases hl : lookO k os with
  | none => rfl
  | some x =>
    have hx : x ∈ os := by
      clear h
      induction os with
      | nil => cases hl
      | cons y ys ih =>
        by_cases hy : k = y.name
        · rw [lookO, if_pos hy] at hl; cases hl; exact List.mem_cons_self
        · rw [lookO, if_neg hy] at hl; exact List.mem_cons_of_mem _ (ih hl)
    have hs := h x hx
    simp only
    rw [if_neg (by omega)]
    have e : partB x.data 0 1000 = x.data := by
      have h2 := part_eq x.data 0 1000 x.data.size (Nat.zero_le _) (by omega)
      have h3 := ByteArray.extract_zero_size (b := x.data)
      rw [h3, h3] at h2
      exact h2.symm
    rw [e]

set_option maxHeartbeats 2000000 in
set_option maxRecDepth 100000 in
theorem does_get (base k f c m ck : Nat) (os : List Ob) (v u : Value) (xs : List Rj) (A : List Ft) (an am : Int) (ta tb : ByteArray) (dd : Bool) (w : World) (hbk : BucketAt k f c m os A ck w) (hrel : RelB os xs) (hs : Sl w base 3 v xs.length (rjc xs)) (hlen : xs.length ≤ 900) (hu : Sl w base 2 u A.length (ftc A)) (hb : base ≤ w.heap.size) (hM : f < base ∧ c < base ∧ m < base) (hA : A.length ≤ 101) (hf : ∀ x ∈ A, Ft.Fits x) (hd : ∀ o ∈ os, o.data.size ≤ 1000) :
    Calls Try.prog 13 #[.pointer (some ⟨k, 0, none⟩), rbv v u, .agg #[.int .i64 3, .int .i64 an, .int .i64 am, .string ta, .string tb, .bool dd]] w fun e w' => ∃ v' u' os' xs', e = .returned (.tuple #[rbv v' u', .bool true]) ∧ Bk k f c m os' (tryL A).2 w' ∧ RelB os' xs' ∧ xs'.length ≤ xs.length + 1 ∧ (∀ x ∈ xs', x ∈ xs) ∧ Sl w' base 3 v' xs'.length (rjc xs') ∧ Sl w' base 2 u' (tryL A).2.length (ftc (tryL A).2) ∧ (∀ k, v'.ownBlock = some k → v.ownBlock = some k ∨ w.heap.size ≤ k) ∧ (∀ k, u'.ownBlock = some k → u.ownBlock = some k ∨ w.heap.size ≤ k) ∧ Turn (Mb f c m) w w' := by
  obtain ⟨name, hname⟩ : ∃ name, name = cutB ta 45 := ⟨_, rfl⟩
  have CU := Lib.hid (fun W => show Calls Try.prog 23 #[.string ta, .int .i64 45] W (fun e w' => e = .returned (.string name) ∧ W = w') by rw [hname]; exact cut_any ta 45 W (by omega))
  have hns : name.size ≤ 1000 := by rw [hname]; exact Nat.le_trans (cutB_le ta 45) (by decide)
  obtain ⟨va, vc, ev⟩ := hs.slice
  obtain ⟨ua, uc, eu⟩ := hu.slice
  obtain ⟨vn, hvn⟩ : ∃ n, n = xs.length := ⟨_, rfl⟩
  obtain ⟨un, hun⟩ : ∃ n, n = A.length := ⟨_, rfl⟩
  rw [← hvn] at ev
  rw [← hun] at eu
  subst ev eu
  obtain ⟨V, hV⟩ : ∃ V, V = (((w.alloc (.cells #[.slice va vn vc, .slice ua un uc] 52)).alloc (.cells #[.int .i64 3, .int .i64 an, .int .i64 am, .string ta, .string tb, .bool dd] 59)).alloc (.cells #[.slice none 0 0, .slice none 0 0] 52)) := ⟨_, rfl⟩
  have bV : Below w.heap.size w V := by rw [hV]; exact (((Below.refl _ _).alloc (Nat.le_refl _) _).alloc (by simp) _).alloc (by simp; omega) _
  have DL := Lib.hid (fun W (bw : Below w.heap.size w W) => get_any k f c m os A ck name W (hbk.below bw))
  have CH := Lib.hid (fun W (t : Turn (Mb f c m) V W) => rask_any base (.slice va vn vc) (.slice ua un uc) A W ⟨_, _, _, rfl⟩ ((hu.on bV).mb t hM) (Nat.le_trans hb (Nat.le_trans bV.size t.size)) hA hf)
  obtain ⟨A2, hA2⟩ : ∃ A2, A2 = (tryL A).2 := ⟨_, rfl⟩
  obtain ⟨wk, hwk⟩ : ∃ wk, wk = (tryL A).1.1 := ⟨_, rfl⟩
  rw [← hA2, ← hwk] at CH
  rw [← get_range name os hd, ← range_rel hrel] at DL
  rw [← hA2, ← hwk] at DL
  rw [← hA2]
  have RX := Lib.hid (fun W (t : Turn (Mb f c m) V W) => rrange_any base (.slice va vn vc) (.slice ua un uc) xs name 0 1000 W ((hs.on bV).mb t hM) (by omega) ⟨_, _, _, rfl⟩)
  obtain ⟨X, hX⟩ : ∃ X, X = rangeX name 0 1000 xs := ⟨_, rfl⟩
  rw [← hX] at DL RX
  obtain ⟨X1, hX1⟩ : ∃ X1, X1 = X.1 := ⟨_, rfl⟩
  obtain ⟨X2, hX2⟩ : ∃ X2, X2 = X.2 := ⟨_, rfl⟩
  rw [← hX1, ← hX2] at DL RX
  have VL := Lib.hid (fun k hk => (hs.lt k hk).2)
  have UL := Lib.hid (fun k hk => (hu.lt k hk).2)
  have KL := Lib.hid hbk.klt
  have R1 := Lib.hid hrel
  have HS := Lib.hid hs
  have HM := Lib.hid hM
  have HB := Lib.hid hb
  have HVN := Lib.hid hvn
  have s1 : (w.alloc (.cells #[.slice va vn vc, .slice ua un uc] 52)).heap.size = w.heap.size + 1 := by simp
  have s2 : ((w.alloc (.cells #[.slice va vn vc, .slice ua un uc] 52)).alloc (.cells #[.int .i64 3, .int .i64 an, .int .i64 am, .string ta, .string tb, .bool dd] 59)).heap.size = w.heap.size + 1 + 1 := by simp
  have z3 : V.heap.size = w.heap.size + 3 := by rw [hV]; simp
  have g0 : V.heap[w.heap.size]? = some (.cells #[.slice va vn vc, .slice ua un uc] 52) := by
    rw [hV, Below.heap_alloc _ _ _ (by omega), Below.heap_alloc _ _ _ (by omega)]; exact heap_alloc_new w _
  have g2 : V.heap[w.heap.size + 1 + 1]? = some (.cells #[.slice none 0 0, .slice none 0 0] 52) := by
    have := heap_alloc_new ((w.alloc (.cells #[.slice va vn vc, .slice ua un uc] 52)).alloc (.cells #[.int .i64 3, .int .i64 an, .int .i64 am, .string ta, .string tb, .bool dd] 59)) (.cells #[.slice none 0 0, .slice none 0 0] 52)
    rw [s2] at this
    rw [hV]; exact this
  have G0 := Lib.hid (fun w1 (t : Turn (Mb f c m) V w1) => show w1.heap[w.heap.size]? = _ from (t.block w.heap.size (by omega) (by rintro (e | e | e) <;> omega)).trans g0)
  have G2 := Lib.hid (fun w1 (t : Turn (Mb f c m) V w1) => show w1.heap[w.heap.size + 1 + 1]? = _ from (t.block (w.heap.size + 1 + 1) (by omega) (by rintro (e | e | e) <;> omega)).trans g2)
  have BV := Lib.hid bV
  have Z3 := Lib.hid z3
  have HVd := Lib.hid hV
  clear hbk hrel hs hlen hu hb hM hA hf hname hns hvn hun hA2 hwk s1 s2 z3 g0 g2 bV hV hX hX1 hX2 hd
  unfold rbv
  go_enter Try.func13, Try.ntmps13
  go_wp2_with fail
  refine (CU.out _).mono ?_
  rintro e w0 ⟨rfl, rfl⟩
  go_wp2_with fail
  go_quiet (fail)
  go_wp2_with fail
  rw [← HVd.out]
  refine (DL.out _ (below_draw BV.out _)).mono ?_
  rintro e w1 ⟨rfl, n1, t0⟩
  have t1 : Turn (Mb f c m) V w1 := (Turn.of_below (below_draw (Below.refl V.heap.size V) _)).trans t0
  clear t0
  have h0 := G0.out w1 t1
  have k0 : w1.cell? ⟨w.heap.size, 0, none⟩ = some (.slice va vn vc) := (cell_of_row _ _ 0 _ _ _ h0).trans rfl
  have k1 : w1.cell? ⟨w.heap.size, 1, none⟩ = some (.slice ua un uc) := (cell_of_row _ _ 1 _ _ _ h0).trans rfl
  have T1 := Lib.hid t1
  have N1 := Lib.hid n1
  have CH1 := Lib.hid (CH.out w1 t1)
  clear t1 n1 h0
  cases wk
  · go_wp2_with fail
    refine CH1.out.mono ?_
    rintro e w2 ⟨u2, rfl, t5, q5, b2⟩
    obtain ⟨a3, c3, rfl⟩ := t5.slice
    have hz : w.heap.size + 1 + 1 < w1.heap.size := by have := T1.out.size; have := Z3.out; omega
    have hR2 := (b2.block (w.heap.size + 1 + 1) hz).trans (G2.out w1 T1.out)
    have h02 := (b2.block (w.heap.size) (by omega)).trans (G0.out w1 T1.out)
    have HZ := Lib.hid (show w.heap.size + 1 + 1 < w2.heap.size from Nat.lt_of_lt_of_le hz b2.size)
    have QQ := Lib.hid (show ∀ k, (Value.slice a3 A2.length c3).ownBlock = some k → (Value.slice ua un uc).ownBlock = some k ∨ w.heap.size ≤ k from fun k hk => (q5 k hk).imp_right fun h => by have := T1.out.size; have := Z3.out; omega)
    have Q5 := Lib.hid (show ∀ k, (Value.slice a3 A2.length c3).ownBlock = some k → k ≠ w.heap.size + 1 + 1 from fun k hk => by
      rcases q5 k hk with h | h
      · have := UL.out k h; omega
      · omega)
    have T5 := Lib.hid t5
    have B2 := Lib.hid b2
    have HR := Lib.hid hR2
    have H0 := Lib.hid h02
    clear t5 q5 b2 hR2 h02 hz CH1 CH k0 k1
    unfold rbv
    go_upto_region 20 with fail
    obtain ⟨W, hW⟩ : ∃ W, W = w2.alloc (.cells #[.slice va vn vc, .slice a3 A2.length c3] 52) := ⟨_, rfl⟩
    have y0 : W.cell? ⟨w2.heap.size, 0, none⟩ = some (.slice va vn vc) := by rw [hW]; exact (cell_of_row _ _ 0 _ _ _ (heap_alloc_new w2 _)).trans rfl
    have y1 : W.cell? ⟨w2.heap.size, 1, none⟩ = some (.slice a3 A2.length c3) := by rw [hW]; exact (cell_of_row _ _ 1 _ _ _ (heap_alloc_new w2 _)).trans rfl
    have hR : W.heap[w.heap.size + 1 + 1]? = some (.cells #[.slice none 0 0, .slice none 0 0] 52) := by rw [hW, Below.heap_alloc _ _ _ HZ.out]; exact HR.out
    have h0 : W.heap[w.heap.size]? = some (.cells #[.slice va vn vc, .slice ua un uc] 52) := by rw [hW, Below.heap_alloc _ _ _ (by have := HZ.out; omega)]; exact H0.out
    have k0 : W.cell? ⟨w.heap.size, 0, none⟩ = some (.slice va vn vc) := (cell_of_row _ _ 0 _ _ _ h0).trans rfl
    have k1 : W.cell? ⟨w.heap.size, 1, none⟩ = some (.slice ua un uc) := (cell_of_row _ _ 1 _ _ _ h0).trans rfl
    have r0 : W.cell? ⟨w.heap.size + 1 + 1, 0, none⟩ = some (.slice none 0 0) := (cell_of_row _ _ 0 _ _ _ hR).trans rfl
    have r1 : W.cell? ⟨w.heap.size + 1 + 1, 1, none⟩ = some (.slice none 0 0) := (cell_of_row _ _ 1 _ _ _ hR).trans rfl
    have f0 : W.frozen? ⟨w.heap.size + 1 + 1, 0, none⟩ = false := by simp only [World.frozen?, hR]; rfl
    have f1 : W.frozen? ⟨w.heap.size + 1 + 1, 1, none⟩ = false := by simp only [World.frozen?, hR]; rfl
    have HZW := Lib.hid (show w2.heap.size < W.heap.size by rw [hW]; simp)
    have BW := Lib.hid (show Below w2.heap.size w2 W by rw [hW]; exact (Below.refl _ _).alloc (Nat.le_refl _) _)
    rw [← hW]
    clear hR hW h0
    go_wp2_with fail
    obtain ⟨W6, hW6⟩ : ∃ W6, W6 = (W.setCell ⟨w.heap.size + 1 + 1, 0, none⟩ (.slice va vn vc)).setCell ⟨w.heap.size + 1 + 1, 1, none⟩ (.slice a3 A2.length c3) := ⟨_, rfl⟩
    have c0 : W6.cell? ⟨w.heap.size + 1 + 1, 0, none⟩ = some (.slice va vn vc) := by
      rw [hW6, cell_setCell_other _ _ _ _ _ (.inr (by simp))]
      exact cell_setCell_same _ _ _ _ (by rw [r0]; rfl)
    have c1 : W6.cell? ⟨w.heap.size + 1 + 1, 1, none⟩ = some (.slice a3 A2.length c3) := by
      rw [hW6]
      exact cell_setCell_same _ _ _ _ (by rw [cell_setCell_other _ _ _ _ _ (.inr (by simp)), r1]; rfl)
    have hM := HM.out
    have hB := HB.out
    have z3 := Z3.out
    have z4 := T1.out.size
    have z5 := B2.out.size
    have z6 := HZW.out
    have hk := KL.out
    have BZ := BW.out
    have TWW : Turn (fun i => i = w.heap.size + 1 + 1) W W6 := by
      rw [hW6]
      exact Turn.setCell (S := fun i => i = w.heap.size + 1 + 1) (Turn.setCell (S := fun i => i = w.heap.size + 1 + 1) (Turn.refl _ W) ⟨w.heap.size + 1 + 1, 0, none⟩ _ rfl) ⟨w.heap.size + 1 + 1, 1, none⟩ _ rfl
    have bW6 : Below w.heap.size w2 W6 := by
      rw [hW6]
      exact ((BZ.mono (by omega)).setCell (p := ⟨w.heap.size + 1 + 1, 0, none⟩) (by simp only; omega) _).setCell (p := ⟨w.heap.size + 1 + 1, 1, none⟩) (by simp only; omega) _
    have T2 := (Turn.of_below (S := fun i => i = w.heap.size + 1 + 1) BZ).trans TWW
    have hbk6 : Bk k f c m os A2 W6 := Bk.turn (Bk.below N1.out B2.out) T2 (by omega) (by omega) (by omega) (by omega)
    have TT : Turn (Mb f c m) w w2 := ((Turn.of_below BV.out).trans T1.out).trans (Turn.of_below B2.out)
    have TW : Turn (Mb f c m) w W6 := ⟨bW6.os.trans TT.os, bW6.tape.trans TT.tape, bW6.output.trans TT.output, Nat.le_trans TT.size bW6.size, fun i hi hn => (bW6.block i hi).trans (TT.block i hi hn)⟩
    have hs6 : Sl W6 base 3 (.slice va vn vc) xs.length (rjc xs) := HS.out.mb TW hM
    have hu6 : Sl W6 base 2 (.slice a3 A2.length c3) A2.length (ftc A2) := T5.out.same T2.size fun k hk => T2.block k (T5.out.lt k hk).2 (Q5.out k hk)
    rw [← hW6]
    refine bodyPost_ret (by simp [results, Try.results13, go_sem, c0, c1]; rfl) rfl ?_
    exact ⟨_, _, os, xs, rfl, hbk6, R1.out, Nat.le_succ _, fun _ h => h, hs6, hu6, fun _ h => .inl h, QQ.out, TW⟩
  · go_wp2_with fail
    refine CH1.out.mono ?_
    rintro e w2 ⟨u2, rfl, t5, q5, b2⟩
    obtain ⟨a3, c3, rfl⟩ := t5.slice
    have hz : w.heap.size + 1 + 1 < w1.heap.size := by have := T1.out.size; have := Z3.out; omega
    have hR2 := (b2.block (w.heap.size + 1 + 1) hz).trans (G2.out w1 T1.out)
    have h02 := (b2.block (w.heap.size) (by omega)).trans (G0.out w1 T1.out)
    have HZ := Lib.hid (show w.heap.size + 1 + 1 < w2.heap.size from Nat.lt_of_lt_of_le hz b2.size)
    have QQ := Lib.hid (show ∀ k, (Value.slice a3 A2.length c3).ownBlock = some k → (Value.slice ua un uc).ownBlock = some k ∨ w.heap.size ≤ k from fun k hk => (q5 k hk).imp_right fun h => by have := T1.out.size; have := Z3.out; omega)
    have Q5 := Lib.hid (show ∀ k, (Value.slice a3 A2.length c3).ownBlock = some k → k ≠ w.heap.size + 1 + 1 from fun k hk => by
      rcases q5 k hk with h | h
      · have := UL.out k h; omega
      · omega)
    have T5 := Lib.hid t5
    have B2 := Lib.hid b2
    have HR := Lib.hid hR2
    have H0 := Lib.hid h02
    clear t5 q5 b2 hR2 h02 hz CH1 CH k0 k1
    unfold rbv
    go_upto_region 20 with fail
    obtain ⟨W, hW⟩ : ∃ W, W = w2.alloc (.cells #[.slice va vn vc, .slice a3 A2.length c3] 52) := ⟨_, rfl⟩
    have y0 : W.cell? ⟨w2.heap.size, 0, none⟩ = some (.slice va vn vc) := by rw [hW]; exact (cell_of_row _ _ 0 _ _ _ (heap_alloc_new w2 _)).trans rfl
    have y1 : W.cell? ⟨w2.heap.size, 1, none⟩ = some (.slice a3 A2.length c3) := by rw [hW]; exact (cell_of_row _ _ 1 _ _ _ (heap_alloc_new w2 _)).trans rfl
    have hR : W.heap[w.heap.size + 1 + 1]? = some (.cells #[.slice none 0 0, .slice none 0 0] 52) := by rw [hW, Below.heap_alloc _ _ _ HZ.out]; exact HR.out
    have h0 : W.heap[w.heap.size]? = some (.cells #[.slice va vn vc, .slice ua un uc] 52) := by rw [hW, Below.heap_alloc _ _ _ (by have := HZ.out; omega)]; exact H0.out
    have k0 : W.cell? ⟨w.heap.size, 0, none⟩ = some (.slice va vn vc) := (cell_of_row _ _ 0 _ _ _ h0).trans rfl
    have k1 : W.cell? ⟨w.heap.size, 1, none⟩ = some (.slice ua un uc) := (cell_of_row _ _ 1 _ _ _ h0).trans rfl
    have r0 : W.cell? ⟨w.heap.size + 1 + 1, 0, none⟩ = some (.slice none 0 0) := (cell_of_row _ _ 0 _ _ _ hR).trans rfl
    have r1 : W.cell? ⟨w.heap.size + 1 + 1, 1, none⟩ = some (.slice none 0 0) := (cell_of_row _ _ 1 _ _ _ hR).trans rfl
    have f0 : W.frozen? ⟨w.heap.size + 1 + 1, 0, none⟩ = false := by simp only [World.frozen?, hR]; rfl
    have f1 : W.frozen? ⟨w.heap.size + 1 + 1, 1, none⟩ = false := by simp only [World.frozen?, hR]; rfl
    have HZW := Lib.hid (show w2.heap.size < W.heap.size by rw [hW]; simp)
    have BW := Lib.hid (show Below w2.heap.size w2 W by rw [hW]; exact (Below.refl _ _).alloc (Nat.le_refl _) _)
    rw [← hW]
    clear hR hW h0
    have RXW := Lib.hid (RX.out W ((T1.out.trans (Turn.of_below B2.out)).trans (Turn.of_below BW.out)))
    go_wp2_with fail
    refine RXW.out.mono ?_
    rintro e w3 ⟨rfl, b3⟩
    have y0' := (b3.cell (p := ⟨w2.heap.size, 0, none⟩) HZW.out).trans y0
    have y1' := (b3.cell (p := ⟨w2.heap.size, 1, none⟩) HZW.out).trans y1
    have hrw : w.heap.size + 1 + 1 < W.heap.size := Nat.lt_trans HZ.out HZW.out
    have r0' := (b3.cell (p := ⟨w.heap.size + 1 + 1, 0, none⟩) hrw).trans r0
    have r1' := (b3.cell (p := ⟨w.heap.size + 1 + 1, 1, none⟩) hrw).trans r1
    have f0' := (b3.frozen (p := ⟨w.heap.size + 1 + 1, 0, none⟩) hrw).trans f0
    have f1' := (b3.frozen (p := ⟨w.heap.size + 1 + 1, 1, none⟩) hrw).trans f1
    have B3 := Lib.hid b3
    clear b3 y0 y1 r0 r1 f0 f1 k0 k1 hrw RXW
    have e1 : (X1.toList == X1.toList) = true := beq_self_eq_true _
    go_wp2_with fail
    have r0 := r0'
    have r1 := r1'
    obtain ⟨W6, hW6⟩ : ∃ W6, W6 = (w3.setCell ⟨w.heap.size + 1 + 1, 0, none⟩ (.slice va vn vc)).setCell ⟨w.heap.size + 1 + 1, 1, none⟩ (.slice a3 A2.length c3) := ⟨_, rfl⟩
    have c0 : W6.cell? ⟨w.heap.size + 1 + 1, 0, none⟩ = some (.slice va vn vc) := by
      rw [hW6, cell_setCell_other _ _ _ _ _ (.inr (by simp))]
      exact cell_setCell_same _ _ _ _ (by rw [r0]; rfl)
    have c1 : W6.cell? ⟨w.heap.size + 1 + 1, 1, none⟩ = some (.slice a3 A2.length c3) := by
      rw [hW6]
      exact cell_setCell_same _ _ _ _ (by rw [cell_setCell_other _ _ _ _ _ (.inr (by simp)), r1]; rfl)
    have hM := HM.out
    have hB := HB.out
    have z3 := Z3.out
    have z4 := T1.out.size
    have z5 := B2.out.size
    have z6 := HZW.out
    have hk := KL.out
    have BZ := BW.out.trans (B3.out.mono (by omega))
    have TWW : Turn (fun i => i = w.heap.size + 1 + 1) w3 W6 := by
      rw [hW6]
      exact Turn.setCell (S := fun i => i = w.heap.size + 1 + 1) (Turn.setCell (S := fun i => i = w.heap.size + 1 + 1) (Turn.refl _ w3) ⟨w.heap.size + 1 + 1, 0, none⟩ _ rfl) ⟨w.heap.size + 1 + 1, 1, none⟩ _ rfl
    have bW6 : Below w.heap.size w2 W6 := by
      rw [hW6]
      exact ((BZ.mono (by omega)).setCell (p := ⟨w.heap.size + 1 + 1, 0, none⟩) (by simp only; omega) _).setCell (p := ⟨w.heap.size + 1 + 1, 1, none⟩) (by simp only; omega) _
    have T2 := (Turn.of_below (S := fun i => i = w.heap.size + 1 + 1) BZ).trans TWW
    have hbk6 : Bk k f c m os A2 W6 := Bk.turn (Bk.below N1.out B2.out) T2 (by omega) (by omega) (by omega) (by omega)
    have TT : Turn (Mb f c m) w w2 := ((Turn.of_below BV.out).trans T1.out).trans (Turn.of_below B2.out)
    have TW : Turn (Mb f c m) w W6 := ⟨bW6.os.trans TT.os, bW6.tape.trans TT.tape, bW6.output.trans TT.output, Nat.le_trans TT.size bW6.size, fun i hi hn => (bW6.block i hi).trans (TT.block i hi hn)⟩
    have hs6 : Sl W6 base 3 (.slice va vn vc) xs.length (rjc xs) := HS.out.mb TW hM
    have hu6 : Sl W6 base 2 (.slice a3 A2.length c3) A2.length (ftc A2) := T5.out.same T2.size fun k hk => T2.block k (T5.out.lt k hk).2 (Q5.out k hk)
    rw [← hW6]
    refine bodyPost_ret (by simp [results, Try.results13, go_sem, c0, c1]; rfl) rfl ?_
    exact ⟨_, _, os, xs, rfl, hbk6, R1.out, Nat.le_succ _, fun _ h => h, hs6, hu6, fun _ h => .inl h, QQ.out, TW⟩
end Go.Proofs.Ytnjoojffefhgpaa
