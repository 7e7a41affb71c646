/- Layer 5: a call on both, and what is there behind it. Layer 5: a call that is none. -/
import Derived.Test.YtnjoojffefhgpaaMPE
import Derived.Test.YtnjoojffefhgpaaMPA
namespace Go.Proofs.Ytnjoojffefhgpaa
open Go.Conc Go.RowKit
set_option linter.unusedVariables false

theorem Sl.mb {w w' : World} {base size n f c m : Nat} {v : Value} {xs : List Value} (h : Sl w base size v n xs) (t : Turn (Mb f c m) w w') (hM : f < base ∧ c < base ∧ m < base) : Sl w' base size v n xs :=
  h.same t.size fun k hk => t.block k (h.lt k hk).2 (by have := (h.lt k hk).1; rintro (e | e | e) <;> omega)

/-- The same behind a change of both. -/
theorem del_rel {os : List Ob} {xs : List Rj} (h : RelB os xs) (A : List Ft) (k d : ByteArray) (t : Int) : RelB (if (tryL A).1.2 = true then delO k os else os) (chR ⟨k, d, t⟩ false xs A).1 ∧ (chR ⟨k, d, t⟩ false xs A).2.1 = (tryL A).2 ∧ (chR ⟨k, d, t⟩ false xs A).2.2 = if (tryL A).1.1 = true then 0 else 8 := by
  have e : chR ⟨k, d, t⟩ false xs A = (if (tryL A).1.2 = true then outR k xs else xs, (tryL A).2, if (tryL A).1.1 = true then 0 else 8) := by
    unfold chR
    rw [if_neg (fun h => Bool.noConfusion h.1)]
    rfl
  rw [e]
  refine ⟨?_, rfl, rfl⟩
  dsimp only
  by_cases hd : (tryL A).1.2 = true
  · rw [if_pos hd, if_pos hd]; exact out_rel h k
  · rw [if_neg hd, if_neg hd]; exact h
theorem put_rel {os : List Ob} {xs : List Rj} (h : RelB os xs) (A : List Ft) (k d : ByteArray) (t : Int) (b : Nat) (hk : 0 < k.size ∧ k.size ≤ 40) : RelB (if (tryL A).1.2 = true then setO k d t b os else os) (chR ⟨k, d, t⟩ true xs A).1 ∧ (chR ⟨k, d, t⟩ true xs A).2.1 = (tryL A).2 ∧ (chR ⟨k, d, t⟩ true xs A).2.2 = if (tryL A).1.1 = true then 0 else 8 := by
  have e : chR ⟨k, d, t⟩ true xs A = (if (tryL A).1.2 = true then withR ⟨k, d, t⟩ xs else xs, (tryL A).2, if (tryL A).1.1 = true then 0 else 8) := by
    unfold chR
    rw [if_neg (fun h => by have h2 : k.size = 0 ∨ 40 < k.size := h.2; omega)]
    rfl
  rw [e]
  refine ⟨?_, rfl, rfl⟩
  dsimp only
  by_cases hd : (tryL A).1.2 = true
  · rw [if_pos hd, if_pos hd]; exact with_rel h k d t b
  · rw [if_neg hd, if_neg hd]; exact h
theorem cutB_le (s : ByteArray) (n : Nat) : (cutB s n).size ≤ n := by
  unfold cutB
  split
  · rw [ByteArray.size_extract]; omega
  · omega
theorem ch_len (x : Rj) (put : Bool) (xs : List Rj) (A : List Ft) : (chR x put xs A).1.length ≤ xs.length + 1 := by
  unfold chR
  by_cases hg : put = true ∧ (x.name.size = 0 ∨ 40 < x.name.size)
  · rw [if_pos hg]; exact Nat.le_succ _
  · rw [if_neg hg]
    dsimp only
    by_cases hd : (tryL A).1.2 = true
    · rw [if_pos hd]
      by_cases hp : put = true
      · rw [if_pos hp]
        unfold withR
        rw [insL_len]
        have := outR_le x.name xs
        omega
      · rw [if_neg hp]
        have := outR_le x.name xs
        omega
    · rw [if_neg hd]; exact Nat.le_succ _

theorem insL_mem (x : Rj) (l : List Rj) (y : Rj) (h : y ∈ insL x l) : y ∈ l ∨ y = x := by
  rcases List.mem_cons.1 ((insL_perm x l).mem_iff.1 h) with e | e
  · exact .inr e
  · exact .inl e
theorem ch_mem (x : Rj) (put : Bool) (xs : List Rj) (A : List Ft) (y : Rj) (h : y ∈ (chR x put xs A).1) : y ∈ xs ∨ (put = true ∧ y = x) := by
  unfold chR at h
  split at h
  · exact .inl h
  · dsimp only at h
    split at h
    · split at h
      · rename_i hp
        rcases insL_mem _ _ _ h with e | e
        · exact .inl (List.mem_filter.1 e).1
        · exact .inr ⟨hp, e⟩
      · exact .inl (List.mem_filter.1 h).1
    · exact .inl h

theorem Bk.turn {k f c m : Nat} {os : List Ob} {A : List Ft} {S : Nat → Prop} {w w' : World} (h : Bk k f c m os A w) (t : Turn S w w') (hk : ¬ S k) (hf : ¬ S f) (hc : ¬ S c) (hm : ¬ S m) : Bk k f c m os A w' := by
  obtain ⟨ck, h⟩ := h
  exact ⟨ck, Nat.lt_of_lt_of_le h.klt t.size, Nat.lt_of_lt_of_le h.mlt t.size, h.kf, h.kc, h.km, h.fm, h.cm, (t.cell (p := ⟨k, 0, none⟩) h.klt hk).trans h.c0, (t.cell (p := ⟨k, 1, none⟩) h.klt hk).trans h.c1,
    h.fuse.turn t hf hc, h.map.turn t hm, h.names, h.stamps⟩

set_option maxHeartbeats 2000000 in
set_option maxRecDepth 100000 in
theorem does_del (base k f c m ck : Nat) (os : List Ob) (v u : Value) (xs : List Rj) (A : List Ft) (an am : Int) (ta tb : ByteArray) (dd : Bool) (w : World) (hbk : BucketAt k f c m os A ck w) (hrel : RelB os xs) (hs : Sl w base 3 v xs.length (rjc xs)) (hlen : xs.length ≤ 900) (hu : Sl w base 2 u A.length (ftc A)) (hb : base ≤ w.heap.size) (hM : f < base ∧ c < base ∧ m < base) (hA : A.length ≤ 101) (hf : ∀ x ∈ A, Ft.Fits x) :
    Calls Try.prog 13 #[.pointer (some ⟨k, 0, none⟩), rbv v u, .agg #[.int .i64 2, .int .i64 an, .int .i64 am, .string ta, .string tb, .bool dd]] w fun e w' => ∃ v' u' os' xs', e = .returned (.tuple #[rbv v' u', .bool true]) ∧ Bk k f c m os' (tryL A).2 w' ∧ RelB os' xs' ∧ xs'.length ≤ xs.length + 1 ∧ (∀ x ∈ xs', x ∈ xs) ∧ Sl w' base 3 v' xs'.length (rjc xs') ∧ Sl w' base 2 u' (tryL A).2.length (ftc (tryL A).2) ∧ (∀ k, v'.ownBlock = some k → v.ownBlock = some k ∨ w.heap.size ≤ k) ∧ (∀ k, u'.ownBlock = some k → u.ownBlock = some k ∨ w.heap.size ≤ k) ∧ Turn (Mb f c m) w w' := by
  obtain ⟨name, hname⟩ : ∃ name, name = cutB ta 45 := ⟨_, rfl⟩
  have CU := Lib.hid (fun W => show Calls Try.prog 23 #[.string ta, .int .i64 45] W (fun e w' => e = .returned (.string name) ∧ W = w') by rw [hname]; exact cut_any ta 45 W (by omega))
  have hns : name.size ≤ 1000 := by rw [hname]; exact Nat.le_trans (cutB_le ta 45) (by decide)
  obtain ⟨va, vc, ev⟩ := hs.slice
  obtain ⟨ua, uc, eu⟩ := hu.slice
  obtain ⟨vn, hvn⟩ : ∃ n, n = xs.length := ⟨_, rfl⟩
  obtain ⟨un, hun⟩ : ∃ n, n = A.length := ⟨_, rfl⟩
  rw [← hvn] at ev
  rw [← hun] at eu
  subst ev eu
  obtain ⟨V, hV⟩ : ∃ V, V = (((w.alloc (.cells #[.slice va vn vc, .slice ua un uc] 52)).alloc (.cells #[.int .i64 2, .int .i64 an, .int .i64 am, .string ta, .string tb, .bool dd] 59)).alloc (.cells #[.slice none 0 0, .slice none 0 0] 52)) := ⟨_, rfl⟩
  have bV : Below w.heap.size w V := by rw [hV]; exact (((Below.refl _ _).alloc (Nat.le_refl _) _).alloc (by simp) _).alloc (by simp; omega) _
  have DL := Lib.hid (delete_go k f c m os A ck name V (hbk.below bV))
  have CH := Lib.hid (fun W t => rchange_any base (.slice va vn vc) (.slice ua un uc) xs A ⟨name, ByteArray.empty, 0⟩ false W ((hs.on bV).mb t hM) hlen ((hu.on bV).mb t hM) (Nat.le_trans hb (Nat.le_trans bV.size t.size)) hA hf hns)
  obtain ⟨r1, r2, r3⟩ := del_rel hrel A name ByteArray.empty 0
  have r4 := ch_len ⟨name, ByteArray.empty, 0⟩ false xs A
  have r5 : ∀ y ∈ (chR ⟨name, ByteArray.empty, 0⟩ false xs A).1, y ∈ xs := fun y hy => by
    rcases ch_mem _ _ _ _ y hy with h | h
    · exact h
    · exact absurd h.1 (by decide)
  obtain ⟨D, hD⟩ : ∃ D, D = chR ⟨name, ByteArray.empty, 0⟩ false xs A := ⟨_, rfl⟩
  rw [← hD] at CH r1 r2 r3 r4 r5
  rw [r2, r3] at CH
  obtain ⟨os', hos⟩ : ∃ os', os' = if (tryL A).1.2 = true then delO name os else os := ⟨_, rfl⟩
  rw [← hos] at DL r1
  obtain ⟨e1, he1⟩ : ∃ e1 : Int, e1 = if (tryL A).1.1 = true then 0 else 8 := ⟨_, rfl⟩
  rw [← he1] at DL CH
  obtain ⟨A2, hA2⟩ : ∃ A2, A2 = (tryL A).2 := ⟨_, rfl⟩
  rw [← hA2] at DL CH ⊢
  obtain ⟨L2, hL2⟩ : ∃ L2, L2 = D.1 := ⟨_, rfl⟩
  rw [← hL2] at CH r1 r4 r5
  have VL := Lib.hid (fun k hk => (hs.lt k hk).2)
  have UL := Lib.hid (fun k hk => (hu.lt k hk).2)
  have KL := Lib.hid hbk.klt
  have R1 := Lib.hid r1
  have R4 := Lib.hid r4
  have R5 := Lib.hid r5
  have HM := Lib.hid hM
  have HB := Lib.hid hb
  have s1 : (w.alloc (.cells #[.slice va vn vc, .slice ua un uc] 52)).heap.size = w.heap.size + 1 := by simp
  have s2 : ((w.alloc (.cells #[.slice va vn vc, .slice ua un uc] 52)).alloc (.cells #[.int .i64 2, .int .i64 an, .int .i64 am, .string ta, .string tb, .bool dd] 59)).heap.size = w.heap.size + 1 + 1 := by simp
  have z3 : V.heap.size = w.heap.size + 3 := by rw [hV]; simp
  have g0 : V.heap[w.heap.size]? = some (.cells #[.slice va vn vc, .slice ua un uc] 52) := by
    rw [hV, Below.heap_alloc _ _ _ (by omega), Below.heap_alloc _ _ _ (by omega)]; exact heap_alloc_new w _
  have g2 : V.heap[w.heap.size + 1 + 1]? = some (.cells #[.slice none 0 0, .slice none 0 0] 52) := by
    have := heap_alloc_new ((w.alloc (.cells #[.slice va vn vc, .slice ua un uc] 52)).alloc (.cells #[.int .i64 2, .int .i64 an, .int .i64 am, .string ta, .string tb, .bool dd] 59)) (.cells #[.slice none 0 0, .slice none 0 0] 52)
    rw [s2] at this
    rw [hV]; exact this
  have G0 := Lib.hid (fun w1 (t : Turn (Mb f c m) V w1) => show w1.heap[w.heap.size]? = _ from (t.block w.heap.size (by omega) (by rintro (e | e | e) <;> omega)).trans g0)
  have G2 := Lib.hid (fun w1 (t : Turn (Mb f c m) V w1) => show w1.heap[w.heap.size + 1 + 1]? = _ from (t.block (w.heap.size + 1 + 1) (by omega) (by rintro (e | e | e) <;> omega)).trans g2)
  have BV := Lib.hid bV
  have Z3 := Lib.hid z3
  have HVd := Lib.hid hV
  clear hbk hrel hs hlen hu hb hM hA hf hname hns hvn hun r1 r2 r3 r4 r5 hD hos he1 hA2 hL2 s1 s2 z3 g0 g2 bV hV
  unfold rbv
  go_enter Try.func13, Try.ntmps13
  go_wp2_with fail
  refine (CU.out _).mono ?_
  rintro e w0 ⟨rfl, rfl⟩
  go_wp2_with fail
  rw [← HVd.out]
  refine DL.out.mono ?_
  rintro e w1 ⟨rfl, n1, t1⟩
  have h0 := G0.out w1 t1
  have k0 : w1.cell? ⟨w.heap.size, 0, none⟩ = some (.slice va vn vc) := (cell_of_row _ _ 0 _ _ _ h0).trans rfl
  have k1 : w1.cell? ⟨w.heap.size, 1, none⟩ = some (.slice ua un uc) := (cell_of_row _ _ 1 _ _ _ h0).trans rfl
  have T1 := Lib.hid t1
  have N1 := Lib.hid n1
  have CH1 := Lib.hid (CH.out w1 t1)
  clear t1 n1 h0
  go_wp2_with fail
  refine CH1.out.mono ?_
  rintro e w2 ⟨v2, u2, rfl, s5, t5, o5, q5, b2⟩
  obtain ⟨a2, c2, rfl⟩ := s5.slice
  obtain ⟨a3, c3, rfl⟩ := t5.slice
  have hz : w.heap.size + 1 + 1 < w1.heap.size := by have := T1.out.size; have := Z3.out; omega
  have hR := (b2.block (w.heap.size + 1 + 1) hz).trans (G2.out w1 T1.out)
  have HZ := Lib.hid (show w.heap.size + 1 + 1 < w2.heap.size from Nat.lt_of_lt_of_le hz b2.size)
  have OO := Lib.hid (show ∀ k, (Value.slice a2 L2.length c2).ownBlock = some k → (Value.slice va vn vc).ownBlock = some k ∨ w.heap.size ≤ k from fun k hk => (o5 k hk).imp_right fun h => by have := T1.out.size; have := Z3.out; omega)
  have O5 := Lib.hid (show ∀ k, (Value.slice a2 L2.length c2).ownBlock = some k → k ≠ w.heap.size + 1 + 1 from fun k hk => by
    rcases o5 k hk with h | h
    · have := VL.out k h; omega
    · omega)
  have QQ := Lib.hid (show ∀ k, (Value.slice a3 A2.length c3).ownBlock = some k → (Value.slice ua un uc).ownBlock = some k ∨ w.heap.size ≤ k from fun k hk => (q5 k hk).imp_right fun h => by have := T1.out.size; have := Z3.out; omega)
  have Q5 := Lib.hid (show ∀ k, (Value.slice a3 A2.length c3).ownBlock = some k → k ≠ w.heap.size + 1 + 1 from fun k hk => by
    rcases q5 k hk with h | h
    · have := UL.out k h; omega
    · omega)
  have S5 := Lib.hid s5
  have T5 := Lib.hid t5
  have B2 := Lib.hid b2
  have HR := Lib.hid hR
  clear s5 t5 o5 q5 b2 hR hz CH1 CH k0 k1
  unfold rbv
  go_upto_region 10 with fail
  obtain ⟨W, hW⟩ : ∃ W, W = w2.alloc (.cells #[.slice a2 L2.length c2, .slice a3 A2.length c3] 52) := ⟨_, rfl⟩
  have y0 : W.cell? ⟨w2.heap.size, 0, none⟩ = some (.slice a2 L2.length c2) := by rw [hW]; exact (cell_of_row _ _ 0 _ _ _ (heap_alloc_new w2 _)).trans rfl
  have y1 : W.cell? ⟨w2.heap.size, 1, none⟩ = some (.slice a3 A2.length c3) := by rw [hW]; exact (cell_of_row _ _ 1 _ _ _ (heap_alloc_new w2 _)).trans rfl
  have hR : W.heap[w.heap.size + 1 + 1]? = some (.cells #[.slice none 0 0, .slice none 0 0] 52) := by rw [hW, Below.heap_alloc _ _ _ HZ.out]; exact HR.out
  have r0 : W.cell? ⟨w.heap.size + 1 + 1, 0, none⟩ = some (.slice none 0 0) := (cell_of_row _ _ 0 _ _ _ hR).trans rfl
  have r1 : W.cell? ⟨w.heap.size + 1 + 1, 1, none⟩ = some (.slice none 0 0) := (cell_of_row _ _ 1 _ _ _ hR).trans rfl
  have f0 : W.frozen? ⟨w.heap.size + 1 + 1, 0, none⟩ = false := by simp only [World.frozen?, hR]; rfl
  have f1 : W.frozen? ⟨w.heap.size + 1 + 1, 1, none⟩ = false := by simp only [World.frozen?, hR]; rfl
  have hzW : w2.heap.size ≤ W.heap.size := by rw [hW]; simp
  have BW := Lib.hid (show Below w2.heap.size w2 W by rw [hW]; exact (Below.refl _ _).alloc (Nat.le_refl _) _)
  rw [← hW]
  have HZW := Lib.hid hzW
  clear hR hW hzW
  go_wp2_with fail
  obtain ⟨W6, hW6⟩ : ∃ W6, W6 = (W.setCell ⟨w.heap.size + 1 + 1, 0, none⟩ (.slice a2 L2.length c2)).setCell ⟨w.heap.size + 1 + 1, 1, none⟩ (.slice a3 A2.length c3) := ⟨_, rfl⟩
  have c0 : W6.cell? ⟨w.heap.size + 1 + 1, 0, none⟩ = some (.slice a2 L2.length c2) := by
    rw [hW6, cell_setCell_other _ _ _ _ _ (.inr (by simp))]
    exact cell_setCell_same _ _ _ _ (by rw [r0]; rfl)
  have c1 : W6.cell? ⟨w.heap.size + 1 + 1, 1, none⟩ = some (.slice a3 A2.length c3) := by
    rw [hW6]
    exact cell_setCell_same _ _ _ _ (by rw [cell_setCell_other _ _ _ _ _ (.inr (by simp)), r1]; rfl)
  have hM := HM.out
  have hB := HB.out
  have z3 := Z3.out
  have z4 := T1.out.size
  have z5 := B2.out.size
  have z6 := HZW.out
  have TWW : Turn (fun i => i = w.heap.size + 1 + 1) W W6 := by
    rw [hW6]
    exact Turn.setCell (S := fun i => i = w.heap.size + 1 + 1) (Turn.setCell (S := fun i => i = w.heap.size + 1 + 1) (Turn.refl _ W) ⟨w.heap.size + 1 + 1, 0, none⟩ _ rfl) ⟨w.heap.size + 1 + 1, 1, none⟩ _ rfl
  have bW6 : Below w.heap.size w2 W6 := by
    rw [hW6]
    exact ((BW.out.mono (by omega)).setCell (p := ⟨w.heap.size + 1 + 1, 0, none⟩) (by simp only; omega) _).setCell (p := ⟨w.heap.size + 1 + 1, 1, none⟩) (by simp only; omega) _
  have T2 := (Turn.of_below (S := fun i => i = w.heap.size + 1 + 1) BW.out).trans TWW
  have hk := KL.out
  have hbk6 : Bk k f c m os' A2 W6 := Bk.turn (Bk.below N1.out B2.out) T2 (by omega) (by omega) (by omega) (by omega)
  have hs6 : Sl W6 base 3 (.slice a2 L2.length c2) L2.length (rjc L2) := S5.out.same T2.size fun k hk => T2.block k (S5.out.lt k hk).2 (O5.out k hk)
  have hu6 : Sl W6 base 2 (.slice a3 A2.length c3) A2.length (ftc A2) := T5.out.same T2.size fun k hk => T2.block k (T5.out.lt k hk).2 (Q5.out k hk)
  have TT : Turn (Mb f c m) w w2 := ((Turn.of_below BV.out).trans T1.out).trans (Turn.of_below B2.out)
  have TW : Turn (Mb f c m) w W6 := ⟨bW6.os.trans TT.os, bW6.tape.trans TT.tape, bW6.output.trans TT.output, Nat.le_trans TT.size bW6.size, fun i hi hn => (bW6.block i hi).trans (TT.block i hi hn)⟩
  rw [← hW6]
  refine bodyPost_ret (by simp [results, Try.results13, go_sem, c0, c1]; rfl) rfl ?_
  exact ⟨_, _, os', L2, rfl, hbk6, R1.out, R4.out, R5.out, hs6, hu6, OO.out, QQ.out, TW⟩
end Go.Proofs.Ytnjoojffefhgpaa

namespace Go.Proofs.Ytnjoojffefhgpaa
open Go.Conc Go.RowKit
set_option linter.unusedVariables false

set_option maxHeartbeats 2000000 in
set_option maxRecDepth 100000 in
theorem does_none (k va' vn uc' un : Nat) (va ua : Option Addr) (kd an am : Int) (ta tb : ByteArray) (dd : Bool) (w : World) (h1 : ¬ kd = 1) (h2 : ¬ kd = 2) (h3 : ¬ kd = 3) (h4 : ¬ kd = 4) (h5 : ¬ kd = 5) (h6 : ¬ kd = 6) :
    Calls Try.prog 13 #[.pointer (some ⟨k, 0, none⟩), rbv (.slice va vn va') (.slice ua un uc'), .agg #[.int .i64 kd, .int .i64 an, .int .i64 am, .string ta, .string tb, .bool dd]] w fun e w' => e = .returned (.tuple #[rbv (.slice va vn va') (.slice ua un uc'), .bool true]) ∧ Below w.heap.size w w' := by
  obtain ⟨name, hname⟩ : ∃ name, name = cutB ta 45 := ⟨_, rfl⟩
  have CU := Lib.hid (fun W => show Calls Try.prog 23 #[.string ta, .int .i64 45] W (fun e w' => e = .returned (.string name) ∧ W = w') by rw [hname]; exact cut_any ta 45 W (by omega))
  clear hname
  unfold rbv
  go_enter Try.func13, Try.ntmps13
  go_wp2_with fail
  refine (CU.out _).mono ?_
  rintro e w0 ⟨rfl, rfl⟩
  go_wp2_with fail
  obtain ⟨Y, hY⟩ : ∃ Y, Y = ((w.alloc (.cells #[.slice va vn va', .slice ua un uc'] 52)).alloc (.cells #[.int .i64 kd, .int .i64 an, .int .i64 am, .string ta, .string tb, .bool dd] 59)).alloc (.cells #[.slice va vn va', .slice ua un uc'] 52) := ⟨_, rfl⟩
  have hh : Y.heap[w.heap.size + 1 + 1]? = some (.cells #[.slice va vn va', .slice ua un uc'] 52) := by
    have := heap_alloc_new ((w.alloc (.cells #[.slice va vn va', .slice ua un uc'] 52)).alloc (.cells #[.int .i64 kd, .int .i64 an, .int .i64 am, .string ta, .string tb, .bool dd] 59)) (.cells #[.slice va vn va', .slice ua un uc'] 52)
    simp only [World.size_alloc] at this
    rw [hY]; exact this
  have c0 : Y.cell? ⟨w.heap.size + 1 + 1, 0, none⟩ = some (.slice va vn va') := (cell_of_row _ _ 0 _ _ _ hh).trans rfl
  have c1 : Y.cell? ⟨w.heap.size + 1 + 1, 1, none⟩ = some (.slice ua un uc') := (cell_of_row _ _ 1 _ _ _ hh).trans rfl
  have hb : Below w.heap.size w Y := by rw [hY]; exact (((Below.refl _ _).alloc (Nat.le_refl _) _).alloc (by simp) _).alloc (by simp; omega) _
  rw [← hY]
  refine bodyPost_ret (by simp [results, Try.results13, go_sem, c0, c1]; rfl) rfl ?_
  exact ⟨rfl, hb⟩
end Go.Proofs.Ytnjoojffefhgpaa
