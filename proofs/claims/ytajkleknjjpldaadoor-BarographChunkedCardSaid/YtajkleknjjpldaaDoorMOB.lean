/- Layer 7: bits read as a chunk. -/
import Derived.Test.YtajkleknjjpldaaDoorMOA
namespace Go.Proofs.YtajkleknjjpldaaDoor
open Go.RowKit Go.Lib

theorem Gt.turn {C t e n : Nat} {s : List UInt8} {E : Xo.Ey} {T : Xo.Tr} {w w' : World} {S : Nat → Prop} (h : Gt C t e s n E T w) (k : Turn S w w') (hC : ∀ k, S k → C ≤ k) (ht : ¬ S t) (he : ¬ S e) : Gt C t e s n E T w' :=
  ⟨⟨Nat.lt_of_lt_of_le h.eye.lt k.size, (k.cell (p := ⟨e, 0, none⟩) h.eye.lt he).trans h.eye.c0, (k.cell (p := ⟨e, 1, none⟩) h.eye.lt he).trans h.eye.c1, (k.cell (p := ⟨e, 2, none⟩) h.eye.lt he).trans h.eye.c2, (k.cell (p := ⟨e, 3, none⟩) h.eye.lt he).trans h.eye.c3, (k.frozen (p := ⟨e, 1, none⟩) h.eye.lt he).trans h.eye.f1, (k.frozen (p := ⟨e, 3, none⟩) h.eye.lt he).trans h.eye.f3, h.eye.hp, h.eye.hn, h.eye.hs⟩,
    h.er, h.tab.turn k hC, h.Ce, h.Ct, h.te, Nat.lt_of_lt_of_le h.lt k.size, fun j hj => (k.cell (p := ⟨t, j, none⟩) h.lt ht).trans (h.c j hj), fun j hj => (k.frozen (p := ⟨t, j, none⟩) h.lt ht).trans (h.f j hj)⟩

theorem takeWin_bd (s : List UInt8) (n : Nat) (w : Nat × Nat) (e : Xo.Ey) (hw : w.1 + w.2 ≤ 64) : (Xo.takeWin s n w e).2.1.1 + (Xo.takeWin s n w e).2.1.2 ≤ 64 ∧ (Xo.takeWin s n w e).1 < 18446744073709551616 := by
  unfold Xo.takeWin
  split
  · exact ⟨hw, show 0 < 18446744073709551616 by decide⟩
  · split
    · exact ⟨hw, Nat.mod_lt _ (by decide)⟩
    · refine ⟨?_, Nat.mod_lt _ (by decide)⟩
      have := Xo.eBits_lt s n 6 (Xo.eBit s n (Xo.eBit s n e).2).2
      simp only
      omega

/-- A fresh trail beside an eye. -/
theorem read_start (C e nb : Nat) (s : List UInt8) (w : World) (Z : Array Value) (tc tt : TypeId) (hE : EyeAt e s 0 nb 0 w) (hT : Tabs C w) (hC : C ≤ e) :
    Gt C (w.heap.size + 2) e s nb (0, 0) Xo.tr0 (((w.alloc (.cells Z tc)).alloc (.cells Z tc)).alloc (.cells #[.int .i64 0, .int .u64 0, .int .i64 0, .int .i64 0, .int .i64 0] tt)) := by
  obtain ⟨W0, hW0⟩ : ∃ W0, W0 = (w.alloc (.cells Z tc)).alloc (.cells Z tc) := ⟨_, rfl⟩
  have hz : W0.heap.size = w.heap.size + 2 := by rw [hW0]; simp
  rw [← hW0]
  have b : Below w.heap.size w (W0.alloc (.cells #[.int .i64 0, .int .u64 0, .int .i64 0, .int .i64 0, .int .i64 0] tt)) := by
    rw [hW0]; exact (((Below.refl _ _).alloc (Nat.le_refl _) _).alloc (by simp) _).alloc (by simp; omega) _
  have h1 := heap_alloc_new W0 (.cells #[.int .i64 0, .int .u64 0, .int .i64 0, .int .i64 0, .int .i64 0] tt)
  rw [hz] at h1
  have hl := hE.lt
  have hC2 := hT.hB
  refine ⟨hE.below b hE.lt, .inl rfl, hT.below b hC2, hC, by omega, by omega, by simp; omega, fun j hj => ?_, fun j hj => ?_⟩
  · rw [cell_of_row _ _ j _ _ _ h1]
    match j, hj with
    | 0, _ => rfl
    | 1, _ => rfl
    | 2, _ => rfl
    | 3, _ => rfl
    | 4, _ => rfl
  · exact frozen_of_row _ _ _ _ _ h1

theorem Turn.setRow {S : Nat → Prop} {a b : World} (h : Turn S a b) (g : Nat) (A : Array Value) (hg : a.heap.size ≤ g) : Turn S a (b.setRow g A) :=
  ⟨h.os, h.tape, h.output, by have := h.size; simp; omega, fun i hi hr => (setRow_other b g i A (by omega)).trans (h.block i hi hr)⟩

theorem results_cell_tmp {P : Program} {fn : Func} {p q : Tmp} {ty : TypeId} (h : fn.results = #[.cell p ty, .tmp q]) (tmps : Array Value) (w : World) (g : Nat) (t : TypeId) (cs : Array Value) (fr : Nat × Nat) (d : TypeDesc) (x : Value)
    (hp : tmps.getD p undef = .pointer (some ⟨g, 0, none⟩)) (hx : tmps.getD q undef = x) (hg : w.heap[g]? = some (.cells cs t fr))
    (hu : P.underlying ty = some d) (hd : (match d with | .struct _ | .array _ _ => true | _ => false) = true) (hi : (P.info? ty).map (·.size) = some cs.size) :
    (results fn tmps).run P w = .ok (.tuple #[.agg cs, x]) w := by
  have hp' : tmps[p]?.getD undef = .pointer (some ⟨g, 0, none⟩) := by simpa using hp
  have hx' : tmps[q]?.getD undef = x := by simpa using hx
  simp [results, h, hp', hx', asAddr, run_loadVar_row w g t ty cs fr d hg hu hd hi]

theorem readM_succ (s : List UInt8) (n k : Nat) (l : List Xo.Sm) (t : Xo.Tr) (e : Xo.Ey) (T' : Xo.Tr) (E' : Xo.Ey) (hr : (if l = [] then Xo.takeFirst s n e else Xo.takeNext s n t e) = (T', E')) :
    Xo.readM s n (k + 1) l t e = if E'.2 ≠ 0 then (E'.2, []) else if Xo.err l (T'.T, T'.V) ≠ 0 then (3, []) else Xo.readM s n k (l ++ [(T'.T, T'.V)]) T' E' := by
  rw [Xo.readM, hr]

/-- What read answers. -/
def RdP (e n nb : Nat) (s : List UInt8) (w : World) (x : Ending) (w' : World) : Prop :=
  ∃ A : Array Value, x = .returned (.tuple #[.agg A, .int .i64 (Xo.readM s nb n [] Xo.tr0 (0, 0)).1]) ∧ A.size = 241 ∧ A.all (·.oneCell') = true ∧ ((Xo.readM s nb n [] Xo.tr0 (0, 0)).1 = 0 → Ch A (Xo.readM s nb n [] Xo.tr0 (0, 0)).2) ∧ Turn (fun k => k = e) w w'

set_option maxRecDepth 100000 in
theorem read_any (C e n nb : Nat) (s : List UInt8) (w : World) (hE : EyeAt e s 0 nb 0 w) (hT : Tabs C w) (hC : C ≤ e) (hn : n ≤ 120) :
    Calls Tryd.prog 46 #[.pointer (some ⟨e, 0, none⟩), .int .i64 n] w (RdP e n nb s w) := by
  obtain ⟨hz, hsz⟩ := zero_of_info chZ_info
  obtain ⟨Z, hZ⟩ : ∃ Z, Z = chZ := ⟨_, rfl⟩
  have hch := chZ_ch
  rw [← hZ] at hz hch
  clear hZ
  have hZs := hch.size
  have hone := hch.one
  have G0 := Lib.hid (read_start C e nb s w Z 49 72 hE hT hC)
  have hel := hE.lt
  go_enter Tryd.func46, Tryd.ntmps46
  go_wp2_with fail
  go_loopw [12] (fun i' wr => ∃ (i : Nat) (A : Array Value) (l : List Xo.Sm) (T : Xo.Tr) (E : Xo.Ey), i' = .int .i64 i ∧ i ≤ n ∧ l.length = i ∧ ChAt (w.heap.size + 1) A l wr ∧ Gt C (w.heap.size + 2) e s nb E T wr ∧ T.a + T.z ≤ 64 ∧ T.V < 18446744073709551616 ∧ (i = 0 → T = Xo.tr0) ∧ Hid (Xo.readM s nb n [] Xo.tr0 (0, 0) = Xo.readM s nb (n - i) l T E) ∧ wr.heap[w.heap.size]? = some (.cells Z 49 (0, 0)) ∧ Turn (fun k => k = e) w wr) (fun i' _ => n - (RowKit.intOf i').toNat)
  case atStart =>
    have b0 : ∀ o1 o2 o3, Below w.heap.size w (((w.alloc o1).alloc o2).alloc o3) := fun _ _ _ => (((Below.refl _ _).alloc (Nat.le_refl _) _).alloc (by simp) _).alloc (by simp; omega) _
    refine ⟨0, Z, [], Xo.tr0, (0, 0), rfl, by omega, rfl, ⟨hch, ?_⟩, G0.out, by decide, by decide, fun _ => rfl, rfl, ?_, Turn.of_below (b0 _ _ _)⟩
    · refine (Below.heap_alloc _ _ _ (by simp)).trans ?_
      have := heap_alloc_new (w.alloc (.cells Z 49)) (.cells Z 49)
      rwa [show (w.alloc (.cells Z 49)).heap.size = w.heap.size + 1 by simp] at this
    · exact (Below.heap_alloc _ _ _ (by simp; omega)).trans ((Below.heap_alloc _ _ _ (by simp)).trans (heap_alloc_new _ _))
  case round =>
    obtain ⟨i, A, l, T, E, rfl, hi, hil, hCh, hG, haz, hV, hT0, hR, hbx, hu⟩ := hrel
    by_cases hlt : i < n
    · obtain ⟨k, hk⟩ : ∃ k, n - i = k + 1 := ⟨n - i - 1, by omega⟩
      have hk1 : n - (i + 1) = k := by omega
      have hR2 := hR.out
      obtain ⟨T', E', hr⟩ : ∃ T' E', (if l = [] then Xo.takeFirst s nb E else Xo.takeNext s nb T E) = (T', E') := ⟨_, _, rfl⟩
      rw [hk, readM_succ _ _ _ _ _ _ _ _ hr] at hR2
      have hCs := hG.tab.hB
      have b1 : Below wr.heap.size wr (wr.alloc (.cells #[.int .i64 0, .int .u64 0] 27)) := (Below.refl _ _).alloc (Nat.le_refl _) _
      have G1 := hG.grow b1
      have hwz := takeWin_bd s nb (T.a, T.z) (Xo.takeCh s nb E).2 haz
      have CC : (i = 0 → Calls Tryd.prog 64 #[.pointer (some ⟨w.heap.size + 2, 0, none⟩), .pointer (some ⟨e, 0, none⟩)] (wr.alloc (.cells #[.int .i64 0, .int .u64 0] 27)) fun x w' => x = .returned (.agg #[.int .i64 T'.T, .int .u64 T'.V]) ∧ Gw C (w.heap.size + 2) e s nb E' T' (wr.alloc (.cells #[.int .i64 0, .int .u64 0] 27)) w') ∧
          (i ≠ 0 → Calls Tryd.prog 65 #[.pointer (some ⟨w.heap.size + 2, 0, none⟩), .pointer (some ⟨e, 0, none⟩)] (wr.alloc (.cells #[.int .i64 0, .int .u64 0] 27)) fun x w' => x = .returned (.agg #[.int .i64 T'.T, .int .u64 T'.V]) ∧ Gw C (w.heap.size + 2) e s nb E' T' (wr.alloc (.cells #[.int .i64 0, .int .u64 0] 27)) w') ∧
          T'.a + T'.z ≤ 64 ∧ T'.V < 18446744073709551616 ∧ -9223372036854775808 ≤ T'.T ∧ T'.T ≤ 9223372036854775807 := by
        by_cases h0 : i = 0
        · have hl : l = [] := List.length_eq_zero_iff.1 (by omega)
          rw [if_pos hl] at hr
          have hT' := hT0 h0
          have := takefirst_any C (w.heap.size + 2) e nb s E T _ G1
          rw [hr, hT'] at this
          have h41 := Xo.eBits_lt s nb 41 E
          have h64 := Xo.eBits_lt s nb 64 (Xo.eBits s nb 41 E).2
          have hT2 : T' = ⟨(Xo.eBits s nb 41 E).1, (Xo.eBits s nb 64 (Xo.eBits s nb 41 E).2).1, 0, 0, 0⟩ := (congrArg Prod.fst hr).symm
          have hT3 : (⟨T'.T, T'.V, Xo.tr0.st, Xo.tr0.a, Xo.tr0.z⟩ : Xo.Tr) = T' := by rw [hT2]; rfl
          simp only at this
          rw [hT3] at this
          refine ⟨fun _ => this, fun h => absurd h0 h, by rw [hT2]; exact Nat.zero_le 64, by rw [hT2]; exact h64, ?_, ?_⟩
          · rw [hT2]; simp only; omega
          · rw [hT2]; simp only; omega
        · have hl : l ≠ [] := fun e => by rw [e] at hil; simp at hil; omega
          rw [if_neg hl] at hr
          have := takenext_any C (w.heap.size + 2) e nb s E T _ G1 haz hV hwz.2
          rw [hr] at this
          have hT2 : T' = (Xo.takeNext s nb T E).1 := (congrArg Prod.fst hr).symm
          have hb := wrapI_bd (T.T + Xo.wrapI (T.st + (Xo.takeCh s nb E).1))
          refine ⟨fun h => absurd h h0, fun _ => this, by rw [hT2]; exact hwz.1, by rw [hT2]; exact Xo.xor_lt hV hwz.2, ?_, ?_⟩
          · rw [hT2]; exact hb.1
          · rw [hT2]; exact hb.2
      obtain ⟨CF, CN, haz', hV', hT1, hT2⟩ := CC
      have hCh1 := hCh.keep (Below.heap_alloc wr (.cells #[.int .i64 0, .int .u64 0] 27) _ hCh.lt)
      have hbx1 := (Below.heap_alloc wr (.cells #[.int .i64 0, .int .u64 0] 27) _ (by have := hu.size; have := hCh.lt; omega)).trans hbx
      have hnew := heap_alloc_new wr (.cells #[.int .i64 0, .int .u64 0] 27)
      have hu1 : Turn (fun k => k = e) w (wr.alloc (.cells #[.int .i64 0, .int .u64 0] 27)) := hu.alloc _
      have hz1 : wr.heap.size < (wr.alloc (.cells #[.int .i64 0, .int .u64 0] 27)).heap.size := by simp
      obtain ⟨W0, hW0⟩ : ∃ W0, W0 = wr.alloc (.cells #[.int .i64 0, .int .u64 0] 27) := ⟨_, rfl⟩
      rw [← hW0] at CF CN hCh1 hbx1 hnew hu1 hz1
      have hcl := hCh.lt
      have htl := hG.lt
      have hn0 : w.heap.size < wr.heap.size := by omega
      have HF := Lib.hid CF
      have HN := Lib.hid CN
      have HW := Lib.hid hW0
      have HC1 := Lib.hid hCh1; have HBX := Lib.hid hbx1; have HNEW := Lib.hid hnew; have HU1 := Lib.hid hu1
      have HR := Lib.hid hR2
      have HK := Lib.hid hk1
      have HIL := Lib.hid hil
      clear hR hR2 hr hk hk1 hil hT0 hwz G1 b1 hCh1 hbx1 hnew hu1 CF CN hCh hG hbx hu hE hT hch G0 haz hV
      by_cases h0 : i = 0
      case' pos =>
        have C1 := Lib.hid (HF.out h0)
        have i0 : ((i : Int) == 0) = true := by simp; omega
        go_wp2_with fail
        rw [← hW0]
        refine C1.out.mono ?_
        rintro x w1 ⟨rfl, g1, u1⟩
        clear C1 i0 h0
      case' neg =>
        have C1 := Lib.hid (HN.out h0)
        have i0 : ((i : Int) == 0) = false := by simp; omega
        go_wp2_with fail
        rw [← hW0]
        refine C1.out.mono ?_
        rintro x w1 ⟨rfl, g1, u1⟩
        clear C1 i0 h0
      all_goals
        have hTE : ¬ TE (w.heap.size + 2) e wr.heap.size := fun hh => by rcases hh with hh | hh <;> omega
        have hn1 : w1.heap[wr.heap.size]? = some (.cells #[.int .i64 0, .int .u64 0] 27 (0, 0)) := (u1.block _ hz1 hTE).trans HNEW.out
        have x0 : w1.cell? ⟨wr.heap.size, 0, none⟩ = some (.int .i64 0) := cell_of_row _ _ 0 _ _ _ hn1
        have x1 : w1.cell? ⟨wr.heap.size, 1, none⟩ = some (.int .u64 0) := cell_of_row _ _ 1 _ _ _ hn1
        have z0 : w1.frozen? ⟨wr.heap.size, 0, none⟩ = false := frozen_of_row _ _ _ _ _ hn1
        have z1 : w1.frozen? ⟨wr.heap.size, 1, none⟩ = false := frozen_of_row _ _ _ _ _ hn1
        clear hW0
        go_wp2_with fail
        obtain ⟨tT, tV, ts, ta, tz⟩ := T'
        simp only at hT1 hT2 hV' haz'
        have hne : wr.heap.size ≠ e := by omega
        have hnt : wr.heap.size ≠ w.heap.size + 2 := by omega
        have hCn : C ≤ wr.heap.size := by omega
        have g2 := (g1.elsewhere wr.heap.size 0 (.int .i64 tT) hCn hnt hne).elsewhere wr.heap.size 1 (.int .u64 tV) hCn hnt hne
        have hT5 : ¬ TE (w.heap.size + 2) e (w.heap.size + 1) := fun hh => by rcases hh with hh | hh <;> omega
        have hT6 : ¬ TE (w.heap.size + 2) e w.heap.size := fun hh => by rcases hh with hh | hh <;> omega
        have hC2 : ChAt (w.heap.size + 1) A l ((w1.setCell ⟨wr.heap.size, 0, none⟩ (.int .i64 tT)).setCell ⟨wr.heap.size, 1, none⟩ (.int .u64 tV)) :=
          HC1.out.keep ((heap_setCell_other _ _ _ _ (by simp only; omega)).trans ((heap_setCell_other _ _ _ _ (by simp only; omega)).trans (u1.block _ (by omega) hT5)))
        have hbx2 : ((w1.setCell ⟨wr.heap.size, 0, none⟩ (.int .i64 tT)).setCell ⟨wr.heap.size, 1, none⟩ (.int .u64 tV)).heap[w.heap.size]? = some (.cells Z 49 (0, 0)) :=
          ((heap_setCell_other _ _ _ _ (by simp only; omega)).trans ((heap_setCell_other _ _ _ _ (by simp only; omega)).trans (u1.block _ (by omega) hT6))).trans HBX.out
        have hsb2 : ((w1.setCell ⟨wr.heap.size, 0, none⟩ (.int .i64 tT)).setCell ⟨wr.heap.size, 1, none⟩ (.int .u64 tV)).heap[wr.heap.size]? = some (.cells #[.int .i64 tT, .int .u64 tV] 27 (0, 0)) :=
          heap_setCell_same _ _ _ _ _ _ (heap_setCell_same _ _ _ _ _ _ hn1)
        have hu2 : Turn (fun k => k = e) w ((w1.setCell ⟨wr.heap.size, 0, none⟩ (.int .i64 tT)).setCell ⟨wr.heap.size, 1, none⟩ (.int .u64 tV)) := by
          have q : Turn (fun k => k = e) w w1 := ⟨u1.os.trans HU1.out.os, u1.tape.trans HU1.out.tape, u1.output.trans HU1.out.output, Nat.le_trans HU1.out.size u1.size, fun k hk hS => (u1.block k (by omega) (fun hh => by rcases hh with hh | hh <;> first | omega | exact hS hh)).trans (HU1.out.block k hk hS)⟩
          exact (q.setNew _ _ (by simp only; omega)).setNew _ _ (by simp only; omega)
        obtain ⟨W2, hW2⟩ : ∃ W, W = (w1.setCell ⟨wr.heap.size, 0, none⟩ (.int .i64 tT)).setCell ⟨wr.heap.size, 1, none⟩ (.int .u64 tV) := ⟨_, rfl⟩
        rw [← hW2] at g2 hC2 hbx2 hsb2 hu2 ⊢
        clear hW2 x0 x1 z0 z1 hn1 g1 u1 hTE hT5 hT6 hz1
        refine (err_any e _ _ _ s W2 g2.eye).mono ?_
        rintro y w3 ⟨rfl, rfl⟩
        have HR2 := HR.out
        have y0 : W2.cell? ⟨wr.heap.size, 0, none⟩ = some (.int .i64 tT) := cell_of_row _ _ 0 _ _ _ hsb2
        have y1 : W2.cell? ⟨wr.heap.size, 1, none⟩ = some (.int .u64 tV) := cell_of_row _ _ 1 _ _ _ hsb2
        obtain ⟨p', er⟩ := E'
        have her := g2.er
        simp only at her HR2
        rcases her with rfl | rfl
        · rw [if_neg (by simp)] at HR2
          have AC := Lib.hid (append_chunk (w.heap.size + 1) A l tT tV W2 hC2 hT1 hT2 hV')
          obtain ⟨ap, hap⟩ : ∃ ap, ap = Xo.err l (tT, tV) := ⟨_, rfl⟩
          unfold App at AC
          rw [← hap] at AC HR2
          by_cases hz0 : ap = 0
          · subst hz0
            rw [if_neg (by simp)] at HR2
            simp only [if_true] at AC
            have HR3 := Lib.hid HR2
            clear hap HR2
            go_wp2_with (go_at_call 13; refine AC.out.mono ?_; rintro y w4 ⟨rfl, u4, A4, hC4⟩)
            have g4 := g2.turn u4 (fun k hk => by omega) (by omega) (by omega)
            have hu4 : Turn (fun k => k = e) w w4 := ⟨u4.os.trans hu2.os, u4.tape.trans hu2.tape, u4.output.trans hu2.output, Nat.le_trans hu2.size u4.size, fun k hk hS => (u4.block k (by have := hu2.size; omega) (by omega)).trans (hu2.block k hk hS)⟩
            refine ⟨⟨i + 1, A4, l ++ [(tT, tV)], ⟨tT, tV, ts, ta, tz⟩, (p', 0), by go_num, hlt, ?_, hC4, g4, haz', hV', fun h => by omega, ?_, (u4.block _ (by have := hu2.size; have := hC2.lt; omega) (by omega)).trans hbx2, hu4⟩, by simp [RowKit.intOf]; omega⟩
            · have := HIL.out; simp; omega
            · show _ = _
              rw [HR3.out, HK.out]
          · rw [if_pos hz0] at HR2
            have hez : ((ap : Int) == 0) = false := by simp; omega
            rw [if_neg hz0] at AC
            have HR3 := Lib.hid HR2
            have hlt4 : w.heap.size < W2.heap.size := by have := hC2.lt; omega
            have hne4 : ¬ (fun k => k = w.heap.size + 1) w.heap.size := by simp only; omega
            clear hap HR2
            go_wp2_with (first
              | (go_at_call 13; refine AC.out.mono ?_; rintro y w4 ⟨rfl, u4, A4, hC4⟩; have hbx4 := (u4.block _ hlt4 hne4).trans hbx2)
              | (refine wpList_store_row rfl 49 _ _ rfl w.heap.size Z rfl rfl 49 Z hbx4 (by rw [hZs]; exact hsz) rfl hone ?_))
            refine bodyPost_ret (results_cell_tmp rfl _ _ w.heap.size 49 Z (0, 0) _ (.int .i64 3) rfl rfl (setRow_heap w4 _ _ Z _ _ hbx4) Tryd.underlying49 rfl (by rw [hZs]; exact hsz)) rfl ?_
            have hu4 : Turn (fun k => k = e) w w4 := ⟨u4.os.trans hu2.os, u4.tape.trans hu2.tape, u4.output.trans hu2.output, Nat.le_trans hu2.size u4.size, fun k hk hS => (u4.block k (by have := hu2.size; omega) (by omega)).trans (hu2.block k hk hS)⟩
            have HR4 := HR3.out
            exact ⟨Z, by rw [HR4]; rfl, hZs, hone, (fun h => by rw [HR4] at h; cases h), hu4.setRow _ _ (Nat.le_refl _)⟩
        · go_wp2_with (refine wpList_store_row rfl 49 _ _ rfl w.heap.size Z rfl rfl 49 Z hbx2 (by rw [hZs]; exact hsz) rfl hone ?_)
          refine bodyPost_ret (results_cell_tmp rfl _ _ w.heap.size 49 Z (0, 0) _ (.int .i64 2) rfl rfl (setRow_heap W2 _ _ Z _ _ hbx2) Tryd.underlying49 rfl (by rw [hZs]; exact hsz)) rfl ?_
          rw [if_pos (by decide)] at HR2
          exact ⟨Z, by rw [HR2]; rfl, hZs, hone, (fun h => by rw [HR2] at h; cases h), hu2.setRow _ _ (Nat.le_refl _)⟩
    · have hin : i = n := by omega
      have hR2 := hR.out
      rw [hin, Nat.sub_self] at hR2
      rw [Xo.readM] at hR2
      have hAs := hCh.ch.size
      have hA1 := hCh.ch.one
      have HR := Lib.hid hR2
      clear hR hR2 hT0 hE hT G0 hin
      go_wp2_with (first
        | (refine wpList_load_row rfl 49 _ rfl (w.heap.size + 1) rfl 49 A (0, 0) _ hCh.block Tryd.underlying49 rfl (by rw [hAs]; exact hsz) ?_)
        | (refine wpList_store_row rfl 49 _ _ rfl w.heap.size A rfl rfl 49 Z hbx (by rw [hAs]; exact hsz) (by rw [hZs, hAs]) hA1 ?_))
      refine bodyPost_ret (results_cell_tmp rfl _ _ w.heap.size 49 A (0, 0) _ (.int .i64 0) rfl rfl (setRow_heap wr _ _ A _ _ hbx) Tryd.underlying49 rfl (by rw [hAs]; exact hsz)) rfl ?_
      have HR4 := HR.out
      exact ⟨A, by rw [HR4]; rfl, hAs, hA1, (fun _ => by rw [HR4]; exact hCh.ch), hu.setRow _ _ (Nat.le_refl _)⟩
end Go.Proofs.YtajkleknjjpldaaDoor
