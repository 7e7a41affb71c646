/- Layer 5: a call on both: kind 1, a put. -/
import Derived.Test.YtnjoojffefhgpaaMPM
import Derived.Deep.CutRange
namespace Go.Proofs.Ytnjoojffefhgpaa
open Go.Conc Go.RowKit Go.Lib
set_option linter.unusedVariables false

theorem put_T (k f c m ck : Nat) (os : List Ob) (xs : List Rj) (A : List Ft) (name data : ByteArray) (tm : Int) (w : World) (h : BucketAt k f c m os A ck w) (hrel : RelB os xs) :
    Calls Try.prog 35 #[.pointer (some ⟨k, 0, none⟩), .string name, .string data, .int .i64 tm] w fun e w' => ∃ os', e = .returned (.int .i64 (chR ⟨name, data, tm⟩ true xs A).2.2) ∧
      Bk k f c m os' (chR ⟨name, data, tm⟩ true xs A).2.1 w' ∧ RelB os' (chR ⟨name, data, tm⟩ true xs A).1 ∧ Turn (Mb f c m) w w' := by
  by_cases hn : 0 < name.size ∧ name.size ≤ 40
  · refine (put_go k f c m os A ck name data tm w h hn).mono ?_
    rintro e w' ⟨rfl, n⟩
    obtain ⟨r1, r2, r3⟩ := put_rel hrel A name data tm ck hn
    exact ⟨_, by rw [r3], by rw [r2]; exact n.1, r1, n.2⟩
  · refine (put_bad k f c m os A ck name data tm w h hn).mono ?_
    rintro e w' ⟨rfl, n⟩
    have e : chR ⟨name, data, tm⟩ true xs A = (xs, A, 1) := by
      unfold chR
      rw [if_pos ⟨rfl, by have : ¬ (0 < name.size ∧ name.size ≤ 40) := hn; show name.size = 0 ∨ 40 < name.size; omega⟩]
    rw [e]
    exact ⟨os, rfl, n.1, hrel, n.2⟩

theorem pu_alloc {w0 W : World} {X : Obj} (b : Below w0.heap.size w0 W) : Below w0.heap.size w0 (W.alloc X) := b.alloc b.size X
theorem pu_drew {w0 W : World} (b : Below w0.heap.size w0 W) : Below w0.heap.size w0 W.drew := b.drew
theorem pu_set {w0 W : World} {p : Addr} {v : Value} (hp : w0.heap.size ≤ p.block) (b : Below w0.heap.size w0 W) : Below w0.heap.size w0 (W.setCell p v) := b.setCell hp v
theorem pu_trans {w0 W W' : World} (b : Below w0.heap.size w0 W) (b' : Below W.heap.size W W') : Below w0.heap.size w0 W' := b.trans (b'.mono b.size)

set_option maxHeartbeats 2000000 in
set_option maxRecDepth 100000 in
theorem does_put (base k f c m ck : Nat) (os : List Ob) (v u : Value) (xs : List Rj) (A : List Ft) (an am : Int) (ta tb : ByteArray) (dd : Bool) (w : World) (hbk : BucketAt k f c m os A ck w) (hrel : RelB os xs) (hs : Sl w base 3 v xs.length (rjc xs)) (hlen : xs.length ≤ 900) (hu : Sl w base 2 u A.length (ftc A)) (hb : base ≤ w.heap.size) (hM : f < base ∧ c < base ∧ m < base) (hA : A.length ≤ 101) (hf : ∀ x ∈ A, Ft.Fits x):
    Calls Try.prog 13 #[.pointer (some ⟨k, 0, none⟩), rbv v u, .agg #[.int .i64 1, .int .i64 an, .int .i64 am, .string ta, .string tb, .bool dd]] w fun e w' => ∃ v' u' os', e = .returned (.tuple #[rbv v' u', .bool true]) ∧ Bk k f c m os' (chR ⟨cutB ta 45, cutB tb 60, an⟩ true xs A).2.1 w' ∧ RelB os' (chR ⟨cutB ta 45, cutB tb 60, an⟩ true xs A).1 ∧ Sl w' base 3 v' (chR ⟨cutB ta 45, cutB tb 60, an⟩ true xs A).1.length (rjc (chR ⟨cutB ta 45, cutB tb 60, an⟩ true xs A).1) ∧ Sl w' base 2 u' (chR ⟨cutB ta 45, cutB tb 60, an⟩ true xs A).2.1.length (ftc (chR ⟨cutB ta 45, cutB tb 60, an⟩ true xs A).2.1) ∧ (∀ k, v'.ownBlock = some k → v.ownBlock = some k ∨ w.heap.size ≤ k) ∧ (∀ k, u'.ownBlock = some k → u.ownBlock = some k ∨ w.heap.size ≤ k) ∧ Turn (Mb f c m) w w' := by
  obtain ⟨name, hname⟩ : ∃ name, name = cutB ta 45 := ⟨_, rfl⟩
  have CU := Lib.hid (fun W => show Calls Try.prog 23 #[.string ta, .int .i64 45] W (fun e w' => e = .returned (.string name) ∧ W = w') by rw [hname]; exact cut_any ta 45 W (by omega))
  obtain ⟨data, hdata⟩ : ∃ data, data = cutB tb 60 := ⟨_, rfl⟩
  have CV := Lib.hid (fun W => show Calls Try.prog 23 #[.string tb, .int .i64 60] W (fun e w' => e = .returned (.string data) ∧ W = w') by rw [hdata]; exact cut_any tb 60 W (by omega))
  have hns : name.size ≤ 1000 := by rw [hname]; exact Nat.le_trans (cutB_le ta 45) (by decide)
  obtain ⟨va, vc, ev⟩ := hs.slice
  obtain ⟨ua, uc, eu⟩ := hu.slice
  obtain ⟨vn, hvn⟩ : ∃ n, n = xs.length := ⟨_, rfl⟩
  obtain ⟨un, hun⟩ : ∃ n, n = A.length := ⟨_, rfl⟩
  rw [← hvn] at ev
  rw [← hun] at eu
  subst ev eu
  obtain ⟨V, hV⟩ : ∃ V, V = (((w.alloc (.cells #[.slice va vn vc, .slice ua un uc] 52)).alloc (.cells #[.int .i64 1, .int .i64 an, .int .i64 am, .string ta, .string tb, .bool dd] 59)).alloc (.cells #[.slice none 0 0, .slice none 0 0] 52)) := ⟨_, rfl⟩
  have bV : Below w.heap.size w V := by rw [hV]; exact (((Below.refl _ _).alloc (Nat.le_refl _) _).alloc (by simp) _).alloc (by simp; omega) _
  have PT := Lib.hid (fun W (bw : Below w.heap.size w W) => put_T k f c m ck os xs A name data an W (hbk.below bw) hrel)
  have CH := Lib.hid (fun W (t : Turn (Mb f c m) V W) => rchange_any base (.slice va vn vc) (.slice ua un uc) xs A ⟨name, data, an⟩ true W ((hs.on bV).mb t hM) hlen ((hu.on bV).mb t hM) (Nat.le_trans hb (Nat.le_trans bV.size t.size)) hA hf hns)
  rw [← hname, ← hdata]
  obtain ⟨D, hD⟩ : ∃ D, D = chR ⟨name, data, an⟩ true xs A := ⟨_, rfl⟩
  rw [← hD] at CH PT ⊢
  obtain ⟨L2, hL2⟩ : ∃ L2, L2 = D.1 := ⟨_, rfl⟩
  obtain ⟨A2, hA2⟩ : ∃ A2, A2 = D.2.1 := ⟨_, rfl⟩
  obtain ⟨e1, he1⟩ : ∃ e1, e1 = D.2.2 := ⟨_, rfl⟩
  rw [← hL2, ← hA2, ← he1] at CH PT
  rw [← hL2, ← hA2]
  have hk3 : k ≠ f ∧ k ≠ c ∧ k ≠ m := ⟨hbk.kf, hbk.kc, hbk.km⟩
  have VL := Lib.hid (fun k hk => (hs.lt k hk).2)
  have UL := Lib.hid (fun k hk => (hu.lt k hk).2)
  have KL := Lib.hid hbk.klt
  have R1 := Lib.hid hrel
  have HS := Lib.hid hs
  have HU := Lib.hid hu
  have HM := Lib.hid hM
  have HB := Lib.hid hb
  have HVN := Lib.hid hvn
  have s1 : (w.alloc (.cells #[.slice va vn vc, .slice ua un uc] 52)).heap.size = w.heap.size + 1 := by simp
  have s2 : ((w.alloc (.cells #[.slice va vn vc, .slice ua un uc] 52)).alloc (.cells #[.int .i64 1, .int .i64 an, .int .i64 am, .string ta, .string tb, .bool dd] 59)).heap.size = w.heap.size + 1 + 1 := by simp
  have z3 : V.heap.size = w.heap.size + 3 := by rw [hV]; simp
  have g0 : V.heap[w.heap.size]? = some (.cells #[.slice va vn vc, .slice ua un uc] 52) := by
    rw [hV, Below.heap_alloc _ _ _ (by omega), Below.heap_alloc _ _ _ (by omega)]; exact heap_alloc_new w _
  have g2 : V.heap[w.heap.size + 1 + 1]? = some (.cells #[.slice none 0 0, .slice none 0 0] 52) := by
    have := heap_alloc_new ((w.alloc (.cells #[.slice va vn vc, .slice ua un uc] 52)).alloc (.cells #[.int .i64 1, .int .i64 an, .int .i64 am, .string ta, .string tb, .bool dd] 59)) (.cells #[.slice none 0 0, .slice none 0 0] 52)
    rw [s2] at this
    rw [hV]; exact this
  have g1 : V.heap[w.heap.size + 1]? = some (.cells #[.int .i64 1, .int .i64 an, .int .i64 am, .string ta, .string tb, .bool dd] 59) := by
    rw [hV, Below.heap_alloc _ _ _ (by omega), ← s1]; exact heap_alloc_new _ _
  have G1 := Lib.hid (fun w1 (t : Turn (Mb f c m) V w1) => show w1.heap[w.heap.size + 1]? = _ from (t.block (w.heap.size + 1) (by omega) (by rintro (e | e | e) <;> omega)).trans g1)
  have G0 := Lib.hid (fun w1 (t : Turn (Mb f c m) V w1) => show w1.heap[w.heap.size]? = _ from (t.block w.heap.size (by omega) (by rintro (e | e | e) <;> omega)).trans g0)
  have G2 := Lib.hid (fun w1 (t : Turn (Mb f c m) V w1) => show w1.heap[w.heap.size + 1 + 1]? = _ from (t.block (w.heap.size + 1 + 1) (by omega) (by rintro (e | e | e) <;> omega)).trans g2)
  have BV := Lib.hid bV
  have Z3 := Lib.hid z3
  have HVd := Lib.hid hV
  clear hbk hrel hs hlen hu hb hM hA hf hname hns hvn hun s1 s2 z3 g0 g2 bV hV hdata hD hL2 hA2 he1
  unfold rbv
  go_enter Try.func13, Try.ntmps13
  go_wp2_with fail
  refine (CU.out _).mono ?_
  rintro e w0 ⟨rfl, rfl⟩
  go_upto_region 4 with fail
  rw [← HVd.out]
  have h1 := G1.out V (Turn.refl _ V)
  have n1 : V.cell? ⟨w.heap.size + 1, 1, none⟩ = some (.int .i64 an) := (cell_of_row _ _ 1 _ _ _ h1).trans rfl
  have n4 : V.cell? ⟨w.heap.size + 1, 4, none⟩ = some (.string tb) := (cell_of_row _ _ 4 _ _ _ h1).trans rfl
  have KEEP := Lib.hid (fun W' (t : Turn (Mb f c m) V W') => show W'.cell? ⟨w.heap.size + 1, 1, none⟩ = some (.int .i64 an) ∧ W'.cell? ⟨w.heap.size + 1, 4, none⟩ = some (.string tb) from
    ⟨(cell_of_row _ _ 1 _ _ _ (G1.out W' t)).trans rfl, (cell_of_row _ _ 4 _ _ _ (G1.out W' t)).trans rfl⟩)
  clear h1
  go_region_held3 (fun W => W.cell? ⟨w.heap.size + 1, 1, none⟩ = some (.int .i64 an) ∧ W.cell? ⟨w.heap.size + 1, 4, none⟩ = some (.string tb)) (first | exact ⟨n1, n4⟩ | assumption)
    (first
      | (go_at_call 23; refine (CV.out _).mono ?_; rintro e w3 ⟨rfl, rfl⟩)
      | (go_at_call 35; refine (PT.out _ BV.out.drew).mono ?_; rintro e w1 ⟨os', rfl, D1, r1, t1⟩; have d1 := KEEP.out w1 ((Turn.refl _ V).drew.trans t1))
      | fail)
  have T1 := Lib.hid ((Turn.refl _ V).drew.trans t1)
  have h0 := G0.out w1 T1.out
  have k0 : w1.cell? ⟨w.heap.size, 0, none⟩ = some (.slice va vn vc) := (cell_of_row _ _ 0 _ _ _ h0).trans rfl
  have k1 : w1.cell? ⟨w.heap.size, 1, none⟩ = some (.slice ua un uc) := (cell_of_row _ _ 1 _ _ _ h0).trans rfl
  obtain ⟨e2, e3⟩ := d1
  have hz : w.heap.size + 1 + 1 < w1.heap.size := by have := T1.out.size; have := Z3.out; omega
  have hz0 : w.heap.size < w1.heap.size := by omega
  have hz1 : w.heap.size + 1 < w1.heap.size := by omega
  have HZ1 := Lib.hid hz
  have KP := Lib.hid (fun (W' : World) (b : Below w1.heap.size w1 W') => show W'.cell? ⟨w.heap.size + 1, 1, none⟩ = some (.int .i64 an) ∧ W'.cell? ⟨w.heap.size + 1, 4, none⟩ = some (.string tb) ∧ W'.cell? ⟨w.heap.size, 0, none⟩ = some (.slice va vn vc) ∧ W'.cell? ⟨w.heap.size, 1, none⟩ = some (.slice ua un uc) from
    ⟨(b.cell (p := ⟨w.heap.size + 1, 1, none⟩) hz1).trans e2, (b.cell (p := ⟨w.heap.size + 1, 4, none⟩) hz1).trans e3, (b.cell (p := ⟨w.heap.size, 0, none⟩) hz0).trans k0, (b.cell (p := ⟨w.heap.size, 1, none⟩) hz0).trans k1⟩)
  clear hz hz0 hz1
  have CH1 := Lib.hid (fun W (b : Below w1.heap.size w1 W) => CH.out W (T1.out.trans (Turn.of_below b)))
  unfold rbv at CH1
  have D1h := Lib.hid D1
  have R1h := Lib.hid r1
  have B1 : Below w1.heap.size w1 w1 := Below.refl _ _
  clear h0 t1 D1 r1 n1 n4 CH
  go_upto_region 5 with fail
  go_cut [10, 11] from 27 to 185 (fun p q wc => ∃ y a2 c2 a3 c3, p = .pointer (some ⟨y, 0, none⟩) ∧ q = .int .i64 e1 ∧ Below w1.heap.size w1 wc ∧ wc.cell? ⟨y, 0, none⟩ = some (.slice a2 L2.length c2) ∧ wc.cell? ⟨y, 1, none⟩ = some (.slice a3 A2.length c3) ∧ Sl wc base 3 (.slice a2 L2.length c2) L2.length (rjc L2) ∧ Sl wc base 2 (.slice a3 A2.length c3) A2.length (ftc A2) ∧ (∀ k, (Value.slice a2 L2.length c2).ownBlock = some k → (Value.slice va vn vc).ownBlock = some k ∨ w1.heap.size ≤ k) ∧ (∀ k, (Value.slice a3 A2.length c3).ownBlock = some k → (Value.slice ua un uc).ownBlock = some k ∨ w1.heap.size ≤ k))
  case first =>
    go_region_held3 (fun W => W.cell? ⟨w.heap.size + 1, 1, none⟩ = some (.int .i64 an) ∧ W.cell? ⟨w.heap.size + 1, 4, none⟩ = some (.string tb) ∧ W.cell? ⟨w.heap.size, 0, none⟩ = some (.slice va vn vc) ∧ W.cell? ⟨w.heap.size, 1, none⟩ = some (.slice ua un uc)) (first | exact ⟨e2, e3, k0, k1⟩ | (refine KP.out _ ?_; repeat (with_reducible (first | assumption | apply pu_drew | apply pu_alloc | (refine pu_set (by dsimp only; omega) ?_)))) | assumption)
      (first
        | (go_at_call 23; refine (CV.out _).mono ?_; rintro e w3 ⟨rfl, rfl⟩)
        | (go_at_call 39; refine (CH1.out w1.drew B1.drew).mono ?_; rintro e w2 ⟨v2, u2, rfl, s5, t5, o5, q5, b2⟩; obtain ⟨a2, c2, rfl⟩ := s5.slice; obtain ⟨a3, c3, rfl⟩ := t5.slice; have b2' : Below w1.heap.size w1 w2 := pu_trans B1.drew b2; have z2 := b2'.size; have hnb := heap_alloc_new w2 (.cells #[.slice none 0 0, .slice none 0 0] 52); have i0 := (cell_of_row _ _ 0 _ _ _ hnb).trans (show _ = some (Value.slice none 0 0) from rfl); have i1 := (cell_of_row _ _ 1 _ _ _ hnb).trans (show _ = some (Value.slice none 0 0) from rfl); have j0 : (w2.alloc (.cells #[.slice none 0 0, .slice none 0 0] 52)).frozen? ⟨w2.heap.size, 0, none⟩ = false := (by simp only [World.frozen?, hnb]; rfl); have j1 : (w2.alloc (.cells #[.slice none 0 0, .slice none 0 0] 52)).frozen? ⟨w2.heap.size, 1, none⟩ = false := (by simp only [World.frozen?, hnb]; rfl))
        | (go_at_call 39; refine (CH1.out (w1.alloc (.cells #[.slice none 0 0, .slice none 0 0] 52)).drew (pu_drew (pu_alloc B1))).mono ?_; rintro e w2 ⟨v2, u2, rfl, s5, t5, o5, q5, b2⟩; obtain ⟨a2, c2, rfl⟩ := s5.slice; obtain ⟨a3, c3, rfl⟩ := t5.slice; have b2' : Below w1.heap.size w1 w2 := pu_trans (pu_drew (pu_alloc B1)) b2; have z2 := b2'.size; have hnb := (b2.block w1.heap.size (by simp)).trans (heap_alloc_new w1 (.cells #[.slice none 0 0, .slice none 0 0] 52)); have i0 := (cell_of_row _ _ 0 _ _ _ hnb).trans (show _ = some (Value.slice none 0 0) from rfl); have i1 := (cell_of_row _ _ 1 _ _ _ hnb).trans (show _ = some (Value.slice none 0 0) from rfl); have j0 : w2.frozen? ⟨w1.heap.size, 0, none⟩ = false := (by simp only [World.frozen?, hnb]; rfl); have j1 : w2.frozen? ⟨w1.heap.size, 1, none⟩ = false := (by simp only [World.frozen?, hnb]; rfl))
        | fail)
    all_goals (go_wp2_with fail)
    all_goals go_meet
    all_goals have hz := HZ1.out
    all_goals first
      | (refine ⟨w2.heap.size, a2, c2, a3, c3, rfl, rfl, b2'.alloc b2'.size _, (cell_of_row _ _ 0 _ _ _ (heap_alloc_new w2 _)).trans rfl, (cell_of_row _ _ 1 _ _ _ (heap_alloc_new w2 _)).trans rfl, s5.alloc _, t5.alloc _, o5, q5⟩; done)
      | skip
    all_goals
      have hzz : ∀ k, (w1.alloc (.cells #[.slice none 0 0, .slice none 0 0] 52)).drew.heap.size ≤ k → w1.heap.size + 1 ≤ k := fun k h => by
        have e : (w1.alloc (.cells #[.slice none 0 0, .slice none 0 0] 52)).drew.heap.size = w1.heap.size + 1 := World.size_alloc _ _
        omega
      have T6 : Turn (fun i => i = w1.heap.size) w2 ((w2.setCell ⟨w1.heap.size, 0, none⟩ (.slice a2 L2.length c2)).setCell ⟨w1.heap.size, 1, none⟩ (.slice a3 A2.length c3)) := Turn.setCell (S := fun i => i = w1.heap.size) (Turn.setCell (S := fun i => i = w1.heap.size) (Turn.refl _ w2) ⟨w1.heap.size, 0, none⟩ _ rfl) ⟨w1.heap.size, 1, none⟩ _ rfl
      refine ⟨w1.heap.size, a2, c2, a3, c3, rfl, rfl, (b2'.setCell (p := ⟨w1.heap.size, 0, none⟩) (Nat.le_refl _) _).setCell (p := ⟨w1.heap.size, 1, none⟩) (Nat.le_refl _) _, ?_, ?_, ?_, ?_, fun k hk => (o5 k hk).imp_right fun h => by have := hzz k h; omega, fun k hk => (q5 k hk).imp_right fun h => by have := hzz k h; omega⟩
      · rw [cell_setCell_other _ _ _ _ _ (.inr (by simp))]; exact cell_setCell_same _ _ _ _ (by rw [i0]; rfl)
      · exact cell_setCell_same _ _ _ _ (by rw [cell_setCell_other _ _ _ _ _ (.inr (by simp)), i1]; rfl)
      · exact s5.same T6.size fun k hk => T6.block k (s5.lt k hk).2 (by
          rcases o5 k hk with h | h
          · have := VL.out k h; omega
          · have := hzz k h; omega)
      · exact t5.same T6.size fun k hk => T6.block k (t5.lt k hk).2 (by
          rcases q5 k hk with h | h
          · have := UL.out k h; omega
          · have := hzz k h; omega)
  case rest =>
    obtain ⟨y, a2, c2, a3, c3, rfl, rfl, b2', y0, y1, s5, t5, o5, q5⟩ := hcut
    have hz : w.heap.size + 1 + 1 < w1.heap.size := HZ1.out
    have hR := (b2'.block (w.heap.size + 1 + 1) hz).trans (G2.out w1 T1.out)
    have OO := Lib.hid (show ∀ k, (Value.slice a2 L2.length c2).ownBlock = some k → (Value.slice va vn vc).ownBlock = some k ∨ w.heap.size ≤ k from fun k hk => (o5 k hk).imp_right fun h => by have := T1.out.size; have := Z3.out; omega)
    have O5 := Lib.hid (show ∀ k, (Value.slice a2 L2.length c2).ownBlock = some k → k ≠ w.heap.size + 1 + 1 from fun k hk => by
      rcases o5 k hk with h | h
      · have := VL.out k h; omega
      · omega)
    have QQ := Lib.hid (show ∀ k, (Value.slice a3 A2.length c3).ownBlock = some k → (Value.slice ua un uc).ownBlock = some k ∨ w.heap.size ≤ k from fun k hk => (q5 k hk).imp_right fun h => by have := T1.out.size; have := Z3.out; omega)
    have Q5 := Lib.hid (show ∀ k, (Value.slice a3 A2.length c3).ownBlock = some k → k ≠ w.heap.size + 1 + 1 from fun k hk => by
      rcases q5 k hk with h | h
      · have := UL.out k h; omega
      · omega)
    have r0 : wc.cell? ⟨w.heap.size + 1 + 1, 0, none⟩ = some (.slice none 0 0) := (cell_of_row _ _ 0 _ _ _ hR).trans rfl
    have r1 : wc.cell? ⟨w.heap.size + 1 + 1, 1, none⟩ = some (.slice none 0 0) := (cell_of_row _ _ 1 _ _ _ hR).trans rfl
    have f0 : wc.frozen? ⟨w.heap.size + 1 + 1, 0, none⟩ = false := by simp only [World.frozen?, hR]; rfl
    have f1 : wc.frozen? ⟨w.heap.size + 1 + 1, 1, none⟩ = false := by simp only [World.frozen?, hR]; rfl
    have S5 := Lib.hid s5
    have T5 := Lib.hid t5
    have B2 := Lib.hid b2'
    clear s5 t5 o5 q5 b2' hR hz CH1 k0 k1 e2 e3 B1
    go_wp2_with fail
    obtain ⟨W6, hW6⟩ : ∃ W6, W6 = (wc.setCell ⟨w.heap.size + 1 + 1, 0, none⟩ (.slice a2 L2.length c2)).setCell ⟨w.heap.size + 1 + 1, 1, none⟩ (.slice a3 A2.length c3) := ⟨_, rfl⟩
    have c0 : W6.cell? ⟨w.heap.size + 1 + 1, 0, none⟩ = some (.slice a2 L2.length c2) := by
      rw [hW6, cell_setCell_other _ _ _ _ _ (.inr (by simp))]
      exact cell_setCell_same _ _ _ _ (by rw [r0]; rfl)
    have c1 : W6.cell? ⟨w.heap.size + 1 + 1, 1, none⟩ = some (.slice a3 A2.length c3) := by
      rw [hW6]
      exact cell_setCell_same _ _ _ _ (by rw [cell_setCell_other _ _ _ _ _ (.inr (by simp)), r1]; rfl)
    have hM := HM.out
    have hB := HB.out
    have hz := HZ1.out
    have hk := KL.out
    have TWW : Turn (fun i => i = w.heap.size + 1 + 1) wc W6 := by
      rw [hW6]
      exact Turn.setCell (S := fun i => i = w.heap.size + 1 + 1) (Turn.setCell (S := fun i => i = w.heap.size + 1 + 1) (Turn.refl _ wc) ⟨w.heap.size + 1 + 1, 0, none⟩ _ rfl) ⟨w.heap.size + 1 + 1, 1, none⟩ _ rfl
    have T2 := (Turn.of_below (S := fun i => i = w.heap.size + 1 + 1) B2.out).trans TWW
    have hbk6 : Bk k f c m os' A2 W6 := Bk.turn D1h.out T2 (by omega) (by omega) (by omega) (by omega)
    have hs6 : Sl W6 base 3 (.slice a2 L2.length c2) L2.length (rjc L2) := S5.out.same TWW.size fun k hk => TWW.block k (S5.out.lt k hk).2 (O5.out k hk)
    have hu6 : Sl W6 base 2 (.slice a3 A2.length c3) A2.length (ftc A2) := T5.out.same TWW.size fun k hk => TWW.block k (T5.out.lt k hk).2 (Q5.out k hk)
    have TT : Turn (Mb f c m) w w1 := (Turn.of_below BV.out).trans T1.out
    have TW : Turn (Mb f c m) w W6 := ⟨T2.os.trans TT.os, T2.tape.trans TT.tape, T2.output.trans TT.output, Nat.le_trans TT.size T2.size, fun i hi hn => (T2.block i (by omega) (by omega)).trans (TT.block i hi hn)⟩
    rw [← hW6]
    refine bodyPost_ret (by simp [results, Try.results13, go_sem, c0, c1]; rfl) rfl ?_
    exact ⟨_, _, os', rfl, hbk6, R1h.out, hs6, hu6, OO.out, QQ.out, TW⟩
end Go.Proofs.Ytnjoojffefhgpaa
