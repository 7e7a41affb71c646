/- Layer 12: what was dropped leaves nothing: the law. -/
import Derived.Test.YteheojiokbdgmaaDoorMIY5
import Derived.Test.YteheojiokbdgmaaDoorMIX9
namespace Go.Proofs.YteheojiokbdgmaaDoor
open Go.RowKit Go.Lib
set_option linter.unusedVariables false

theorem zc_one12 : (Tryd.prog.info? 25).map (fun i => (i.zero, i.size, i.bytes)) = some (some (.agg #[.slice none 0 0, .bool false]), 2, 32) := by kernel_rfl
def osc (zs : List Oi) : List Value := zs.flatMap fun z => [.slice z.a z.n z.c, .bool z.st]
theorem osc_len (l : List Oi) : (osc l).length = l.length * 2 := by
  induction l with
  | nil => rfl
  | cons s l ih =>
    show ([Value.slice s.a s.n s.c, .bool s.st] ++ osc l).length = _
    rw [List.length_append, ih]
    simp only [List.length_cons, List.length_nil]
    omega
theorem osc_one (l : List Oi) : ∀ v ∈ osc l, v.oneCell' = true := by
  intro v hv
  simp only [osc, List.mem_flatMap, List.mem_cons, List.not_mem_nil, or_false] at hv
  obtain ⟨s, _, rfl | rfl⟩ := hv <;> rfl
theorem osc_at : ∀ (l : List Oi) (i : Nat) (z : Oi), l[i]? = some z → (osc l)[i * 2]? = some (.slice z.a z.n z.c) ∧ (osc l)[i * 2 + 1]? = some (.bool z.st)
  | [], i, z, h => by simp at h
  | y :: l, 0, z, h => by
    simp only [List.getElem?_cons_zero, Option.some.injEq] at h
    subst h
    exact ⟨rfl, rfl⟩
  | y :: l, i + 1, z, h => by
    have ih := osc_at l i z (by simpa using h)
    rw [show (i + 1) * 2 = i * 2 + 1 + 1 by omega]
    show ([Value.slice y.a y.n y.c, .bool y.st] ++ osc l)[i * 2 + 1 + 1]? = _ ∧ ([Value.slice y.a y.n y.c, .bool y.st] ++ osc l)[i * 2 + 1 + 1 + 1]? = _
    simp only [List.cons_append, List.nil_append, List.getElem?_cons_succ]
    exact ih
theorem osc_set : ∀ (l : List Oi) (k : Nat) (z : Oi) (t : Bool), l[k]? = some z → (osc l).set (k * 2 + 1) (.bool t) = osc (l.set k { z with st := t })
  | [], k, z, t, h => by simp at h
  | y :: l, 0, z, t, h => by
    simp only [List.getElem?_cons_zero, Option.some.injEq] at h
    subst h
    rfl
  | y :: l, k + 1, z, t, h => by
    have ih := osc_set l k z t (by simpa using h)
    rw [show (k + 1) * 2 + 1 = k * 2 + 1 + 1 + 1 by omega]
    show ([Value.slice y.a y.n y.c, .bool y.st] ++ osc l).set (k * 2 + 1 + 1 + 1) _ = _
    simp only [List.cons_append, List.nil_append, List.set_cons_succ, List.set]
    rw [ih]
    rfl
theorem sl_put12 {w : World} {base size g off n cap c : Nat} {xs : List Value} (h : Sl w base size (.slice (some ⟨g, off, none⟩) n cap) n xs) (u : Value) (hc : c < n * size) :
    Sl (w.setCell ⟨g, off + c, none⟩ u) base size (.slice (some ⟨g, off, none⟩) n cap) n (xs.set c u) := by
  obtain ⟨h1, h2⟩ := h
  refine ⟨by rw [List.length_set]; exact h1, ?_⟩
  rcases h2 with ⟨e, _⟩ | ⟨g', off', cap', e, a1, a2, a3, a4, a5, a6⟩
  · cases e
  · cases e
    have hcc : c < cap * size := Nat.lt_of_lt_of_le hc (Nat.mul_le_mul_right _ a3)
    refine .inr ⟨g, off, cap, rfl, a1, by simpa [World.setCell] using a2, a3, a4, fun j hj => ⟨?_, ?_⟩, fun j hj => ?_⟩
    · by_cases hj' : j = c
      · subst hj'
        rw [cell_setCell_same _ _ _ _ (a5 j hj).1]; rfl
      · rw [cell_setCell_other _ _ _ _ _ (.inr (by simp only; omega))]
        exact (a5 j hj).1
    · rw [frozen_setCell]
      exact (a5 j hj).2
    · by_cases hj' : j = c
      · subst hj'
        rw [cell_setCell_same _ _ _ _ (a5 j hcc).1, List.getElem?_set_self (by omega)]
      · rw [cell_setCell_other _ _ _ _ _ (.inr (by simp only; omega)), List.getElem?_set_ne (fun e => hj' e.symm)]
        exact a6 j hj
theorem sl_free12 {w : World} {base size g off n cap : Nat} {xs : List Value} (h : Sl w base size (.slice (some ⟨g, off, none⟩) n cap) n xs) (j : Nat) (hj : j < n * size) : w.frozen? ⟨g, off + j, none⟩ = false := by
  obtain ⟨h1, h2⟩ := h
  rcases h2 with ⟨e, _⟩ | ⟨g', off', cap', e, a1, a2, a3, a4, a5, a6⟩
  · cases e
  · cases e
    exact (a5 j (Nat.lt_of_lt_of_le hj (Nat.mul_le_mul_right _ a3))).2
theorem OsR.rd {w : World} {a : Option Addr} {len n cap : Nat} {zs : List Oi} (h : OsR w a len zs) (hn : n = zs.length) : Rd w 2 (.slice a n cap) n (osc zs) := by
  have hl := h.hl
  rcases Nat.eq_zero_or_pos n with h0 | hp
  · subst h0
    have : zs = [] := List.eq_nil_of_length_eq_zero hn.symm
    subst this
    exact ⟨rfl, a, cap, 0, 0, rfl, fun h => absurd h (Nat.lt_irrefl 0), fun j hj => absurd hj (by omega)⟩
  · obtain ⟨g, off, he, hg, hc⟩ := h.at_ (by omega)
    refine ⟨by rw [osc_len, hn], a, cap, g, off, rfl, fun _ => ⟨he, hg⟩, fun j hj => ?_⟩
    obtain ⟨z, hz⟩ : ∃ z, zs[j / 2]? = some z := ⟨zs[j / 2]'(by omega), List.getElem?_eq_getElem (by omega)⟩
    obtain ⟨c0, c1⟩ := hc (j / 2) z hz
    obtain ⟨d0, d1⟩ := osc_at zs (j / 2) z hz
    rcases (show j = j / 2 * 2 ∨ j = j / 2 * 2 + 1 by omega) with e | e
    · rw [e, d0]; exact c0
    · rw [e, d1, ← Nat.add_assoc]; exact c1
theorem OsR.of_sl {w : World} {B : Nat} {a : Option Addr} {m c : Nat} {l : List Oi} (h : Sl w B 2 (.slice a m c) m (osc l)) (hm : m ≤ 12) (hr : ∀ z ∈ l, z.n ≤ maxLen ∧ PrsAt w z.a z.n z.ds) : OsR w a m l := by
  have hl : l.length = m := by have := h.1; rw [osc_len] at this; omega
  refine ⟨by omega, by unfold maxLen; omega, fun h0 => ?_, hr⟩
  rcases h.2 with ⟨e, e0⟩ | ⟨g, off, cap, e, _, hg, _, _, _, hcell⟩
  · omega
  · cases e
    refine ⟨g, off, rfl, hg, fun i z hz => ?_⟩
    have hi : i < m := by have := (List.getElem?_eq_some_iff.1 hz).1; omega
    obtain ⟨d0, d1⟩ := osc_at l i z hz
    exact ⟨(hcell (i * 2) (by omega)).trans d0, by rw [Nat.add_assoc]; exact (hcell (i * 2 + 1) (by omega)).trans d1⟩
/-- It doesn't stay. -/
def offZ (z : Oi) : Oi := { z with st := false }
theorem growN_off (zs : List Oi) : ∀ i, growN (zs.map offZ) i = []
  | 0 => rfl
  | i + 1 => by
    show growN (zs.map offZ) i ++ _ = []
    rw [growN_off zs i, List.getElem?_map]
    cases zs[i]? <;> rfl
theorem run_headO (a : Option Addr) (n cap m : Nat) (hm : m ≤ n) (hn : n ≤ cap) (W : World) : (Instr.slice 22 (.slice a n cap) none (some (.int .i64 (m : Int))) none).run Tryd.prog W = .ok (.slice a m cap) W := by
  have hu := run_underlying Tryd.underlying22
  have hz := Tryd.sizeOf25
  have h1 : (m : Int) ≤ cap := by omega
  cases a with
  | none => simp [Instr.slice, Instr.sliceBounds, go_sem, hu, hz, Addr.add, h1]
  | some p => simp [Instr.slice, Instr.sliceBounds, go_sem, hu, hz, Addr.add, h1]
/-- An index without series says nothing. -/
theorem Gst.none {w : World} {b mh ml : Nat} {zs : List Oi} {i : Nat} {tv : Value} {W : World} (h : Gst w b mh ml zs i tv W) (h0 : growN zs i = []) : ∃ va L cl ch o, IxW w.heap.size b mh ml va [] [] ch L cl o W := by
  obtain ⟨va, A, H, ch, L, cl, o, qs, I, G, D, hq, B⟩ := h
  rw [h0] at G
  have hA : A = [] := List.eq_nil_of_length_eq_zero (by have := G.len; simpa using this)
  have hH : H = [] := none_of_get G.full I.keysH (fun x hx => (I.inner x hx).2.2.2.1) (fun x y => List.eq_nil_of_length_eq_zero (by have := G.glen x y; simpa using this))
  subst hA hH
  exact ⟨va, L, cl, ch, o, I⟩

set_option maxHeartbeats 4000000 in
set_option maxRecDepth 100000 in
theorem pempty_any (a0 : Option Addr) (len0 cap0 : Nat) (zs : List Oi) (w : World) (h : OsC w a0 len0 cap0 zs) :
    Calls Tryd.prog 3 #[.slice a0 len0 cap0] w fun e w' => e = .returned (.bool true) ∧ Below w.heap.size w w' := by
  obtain ⟨i0, hi, hz0, hz1, hz2⟩ := info_parts zc_one12
  have Hz := Lib.hid hz0; have Hs := Lib.hid hz1; have Hb := Lib.hid hz2; have Hi := Lib.hid hi
  clear hz0 hz1 hz2 hi
  obtain ⟨hr, hlc, hcm⟩ := h
  have hcm63 : cap0 ≤ 9223372036854775807 := by unfold maxLen at hcm; exact hcm
  obtain ⟨m, hm⟩ : ∃ m, m = zs.length := ⟨_, rfl⟩
  have hmh := hr.hl
  rw [← hm] at hmh
  have hml : m ≤ len0 := by omega
  have hm12 : m ≤ 12 := by omega
  have hmin : min (len0 : Int) 12 = m := by omega
  have HRUN := run_headO a0 len0 cap0 m hml hlc
  obtain ⟨W1, hW1⟩ : ∃ W1, W1 = w.alloc (.cells #[] 25) := ⟨_, rfl⟩
  have b1 : Below w.heap.size w W1 := by rw [hW1]; exact (Below.refl _ _).alloc (Nat.le_refl _) _
  have RD := Lib.hid (show Rd W1 2 (.slice a0 m cap0) m (osc zs) from (hr.on b1).rd hm)
  have S0 : Sl W1 w.heap.size 2 (.slice (some ⟨w.heap.size, 0, none⟩) 0 0) 0 [] := by rw [hW1]; exact Sl.lit w w.heap.size 2 0 #[] _ (Nat.le_refl _) (by decide) rfl
  have HPS := Lib.hid hr.ps
  have B1 := Lib.hid b1
  have HW1 := Lib.hid hW1
  have z1 := b1.size
  have HMM := Lib.hid hm
  clear hr hW1 b1 hm hmh
  go_enter Tryd.func3, Tryd.ntmps3
  go_wp2_with (at_builtin; rw [← HW1.out]; refine wpList_append_rd _ rfl (.tmp 7) (.tmp 12) 22 rfl w.heap.size 25 i0 (.agg #[.slice none 0 0, .bool false]) 2 32 Tryd.underlying22 Hi.out Hz.out Hs.out Hb.out rfl (by decide) _ 0 [] rfl S0 (.slice a0 m cap0) m _ (by simp [Act.eval]) RD.out (osc_one _) (by unfold maxLen; omega) (by omega) z1 ?_; intro v5 w5 x5; obtain ⟨a5, c5, e5⟩ := x5.now.slice; rw [Nat.zero_add] at e5; subst e5; have X5 := Lib.hid x5.now; have B5 := Lib.hid (B1.out.trans (x5.below (Nat.le_refl _) z1)); clear x5)
  have X6 := Lib.hid (show Sl w5 w.heap.size 2 (.slice a5 m c5) m (osc ((zs.take 0).map offZ ++ zs.drop 0)) by have := X5.out; simpa using this)
  clear X5 RD S0 HW1 B1
  go_loopw [4, 16] (fun _ i' wr => ∃ (i : Nat), i' = .int .i64 i ∧ i ≤ m ∧ Hid (Sl wr w.heap.size 2 (.slice a5 m c5) m (osc ((zs.take i).map offZ ++ zs.drop i)) ∧ Below w.heap.size w wr)) (fun _ i' _ => m - (RowKit.intOf i').toNat)
  case atStart => exact ⟨0, rfl, by omega, Lib.hid ⟨X6.out, B5.out⟩⟩
  case round =>
    clear X6 B5
    obtain ⟨W0, rfl⟩ : ∃ W0, W0 = wr := ⟨_, rfl⟩
    obtain ⟨i, rfl, hi, hsb⟩ := hrel
    obtain ⟨hs, hb⟩ := hsb.out
    have HSL := Lib.hid hs; have HB := Lib.hid hb
    by_cases hlt : i < m
    · have hil : (i : Int) < m := by omega
      have hi0 : (0 : Int) ≤ i := by omega
      obtain ⟨z, hz⟩ : ∃ z, zs[i]? = some z := ⟨zs[i]'(by have := HMM.out; omega), List.getElem?_eq_getElem (by have := HMM.out; omega)⟩
      have hE : ((zs.take i).map offZ ++ zs.drop i)[i]? = some z := by
        have h9 := HMM.out
        rw [List.getElem?_append_right (by rw [List.length_map, List.length_take]; omega), List.length_map, List.length_take, ← HMM.out, Nat.min_eq_left (by omega), Nat.sub_self, List.getElem?_drop, Nat.add_zero]
        exact hz
      obtain ⟨g, off, rfl, hbg, hgw⟩ : ∃ g off, a5 = some ⟨g, off, none⟩ ∧ w.heap.size ≤ g ∧ g < W0.heap.size := by
        rcases hs.2 with ⟨h0, _⟩ | ⟨g, off, cap', he, h1, h2, _⟩
        · cases h0; omega
        · cases he; exact ⟨g, off, rfl, h1, h2⟩
      obtain ⟨d0, d1⟩ := osc_at _ i z hE
      have c1 := hs.cells _ _ d1
      rw [Addr.add_lit] at c1
      rw [← Nat.add_assoc] at c1
      have f1 := sl_free12 hs (i * 2 + 1) (by omega)
      rw [← Nat.add_assoc] at f1
      have SU := Lib.hid (show Sl (W0.setCell ⟨g, off + i * 2 + 1, none⟩ (.bool false)) w.heap.size 2 (.slice (some ⟨g, off, none⟩) m c5) m (osc ((zs.take (i + 1)).map offZ ++ zs.drop (i + 1))) from by
        have h1 := sl_put12 hs (.bool false) (show i * 2 + 1 < m * 2 by omega)
        rw [osc_set _ i z false hE] at h1
        rw [Nat.add_assoc]
        have e : ((zs.take i).map offZ ++ zs.drop i).set i { z with st := false } = (zs.take (i + 1)).map offZ ++ zs.drop (i + 1) := by
          have hd : zs.drop i = z :: zs.drop (i + 1) := by
            obtain ⟨hlt', hz'⟩ := List.getElem?_eq_some_iff.1 hz
            rw [← hz']
            exact List.drop_eq_getElem_cons hlt'
          rw [hd, List.set_append_right _ _ (by rw [List.length_map, List.length_take]; omega), List.length_map, List.length_take, ← HMM.out, Nat.min_eq_left (by omega), Nat.sub_self, List.set_cons_zero, List.take_add_one, hz]
          show _ = (zs.take i ++ [z]).map offZ ++ zs.drop (i + 1)
          rw [List.map_append, List.append_assoc]
          rfl
        rw [e] at h1
        exact h1)
      have BS := Lib.hid (HB.out.setCell (p := ⟨g, off + i * 2 + 1, none⟩) hbg (.bool false))
      clear hz hE d0 d1 hs hb hsb
      go_wp2_with fail
      exact ⟨⟨i + 1, by simp, by omega, Lib.hid ⟨SU.out, BS.out⟩⟩, by simp [RowKit.intOf]; omega⟩
    · have HFN := (show (zs.take i).map offZ ++ zs.drop i = zs.map offZ by
        have h1 := HMM.out
        rw [List.take_of_length_le (by omega), List.drop_eq_nil_of_le (by omega), List.append_nil])
      rw [HFN] at hs
      have OR : OsR W0 a5 m (zs.map offZ) := OsR.of_sl hs hm12 fun z hz => by
        obtain ⟨y, hy, rfl⟩ := List.mem_map.1 hz
        obtain ⟨h1, h2⟩ := HPS.out y hy
        refine ⟨h1, h2.1, fun h0 => ?_⟩
        obtain ⟨g2, off2, he, hg2, hc2⟩ := h2.2 h0
        refine ⟨g2, off2, he, Nat.lt_of_lt_of_le hg2 hb.size, fun k x hk => ?_⟩
        obtain ⟨d0, d1⟩ := hc2 k x hk
        exact ⟨(hb.cell (p := ⟨g2, off2 + k * 2, none⟩) hg2).trans d0, (hb.cell (p := ⟨g2, off2 + k * 2 + 1, none⟩) hg2).trans d1⟩
      have GROW := Lib.hid (grow12_any a5 m c5 (zs.map offZ) W0 OR)
      have hil : ¬ (i : Int) < m := by omega
      clear hs hb hlt hsb HSL OR HFN
      go_wp2_with fail
      refine GROW.out.mono ?_
      rintro e w6 ⟨b, mh, ml, tv, rfl, hG⟩
      obtain ⟨va, L, cl, ch, o, I6⟩ := hG.none (growN_off zs _)
      have hb6 : Below W0.heap.size W0 w6 := by obtain ⟨_, _, _, _, _, _, _, _, _, _, _, _, B⟩ := hG; exact B
      have IX6 := Lib.hid I6
      have B6 := Lib.hid (HB.out.trans (hb6.mono HB.out.size))
      have AW := Lib.hid (fun W => pawake_any W)
      clear hG I6 hb6 GROW HB
      go_wp2_with fail
      refine (AW.out _).mono ?_
      rintro e w7 ⟨rfl, b7⟩
      have I7 := IX6.out.other (Stp.below (T := fun _ => False) b7) (fun _ => id)
      have IX7 := Lib.hid I7
      have B7 := Lib.hid (B6.out.trans (b7.mono B6.out.size))
      clear I7 b7 AW
      go_wp2_with fail
      refine (all_any12 _ _ _ _ _ _ _ [] [] _ _ _ IX7.out (Nat.zero_le _)).mono ?_
      rintro e w8 ⟨v8, rfl, s8, b8⟩
      obtain ⟨a8, c8, e8⟩ := s8.slice
      rw [List.length_nil] at e8
      subst e8
      have I8 := IX7.out.other (Stp.below (T := fun _ => False) b8) (fun _ => id)
      have IX8 := Lib.hid I8
      have B8 := Lib.hid (B7.out.trans (b8.mono B7.out.size))
      clear I8 b8 s8
      go_wp2_with fail
      refine (names_any _ _ _ _ _ _ _ [] [] _ _ _ IX8.out (fun a ha => by cases ha) (Nat.zero_le _)).mono ?_
      rintro e w9 ⟨v9, ss, rfl, hp, hrow, hnil, b9⟩
      have hss : ss = [] := List.perm_nil.1 hp
      have hv9 := hnil.2 hss
      subst hv9
      have B9 := Lib.hid (B8.out.trans (b9.mono B8.out.size))
      clear hp hrow hnil b9 hss
      go_wp2_with fail
      go_ret
      exact ⟨rfl, B9.out⟩
end Go.Proofs.YteheojiokbdgmaaDoor
