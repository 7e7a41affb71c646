/- Layer 14: Table, walked. -/
import Derived.Test.YtfckgcckpfklaaaGreatDoorMA4
import Derived.Deep.RegionHeld3
namespace Go.Proofs.YtfckgcckpfklaaaGreatDoor
open Go.RowKit Go.Lib
set_option linter.unusedVariables false

/-- A sample of a series: its name, a time, a value. -/
structure On where
  n : Int
  t : Int
  v : Int
deriving Inhabited
/-- The first forty, read from cells. -/
structure OnR (w : World) (a : Option Addr) (len : Nat) (zs : List On) : Prop where
  hl : zs.length = min len 40
  hm : len ≤ maxLen
  at_ : 0 < len → ∃ g off, a = some ⟨g, off, none⟩ ∧ g < w.heap.size ∧ ∀ i z, zs[i]? = some z → w.cell? ⟨g, off + i * 3, none⟩ = some (.int .u8 z.n) ∧ w.cell? ⟨g, off + i * 3 + 1, none⟩ = some (.int .i64 z.t) ∧ w.cell? ⟨g, off + i * 3 + 2, none⟩ = some (.int .u64 z.v)
  rng : ∀ z ∈ zs, (0 ≤ z.n ∧ z.n ≤ 255) ∧ -9223372036854775808 ≤ z.t ∧ z.t ≤ 9223372036854775807
theorem OnR.on {w w' : World} {a : Option Addr} {len : Nat} {zs : List On} (h : OnR w a len zs) (b : Below w.heap.size w w') : OnR w' a len zs := by
  refine ⟨h.hl, h.hm, fun h0 => ?_, h.rng⟩
  obtain ⟨g, off, he, hg, hc⟩ := h.at_ h0
  refine ⟨g, off, he, Nat.lt_of_lt_of_le hg b.size, fun i z hz => ?_⟩
  obtain ⟨c0, c1, c2⟩ := hc i z hz
  exact ⟨(b.cell (p := ⟨g, off + i * 3, none⟩) hg).trans c0, (b.cell (p := ⟨g, off + i * 3 + 1, none⟩) hg).trans c1, (b.cell (p := ⟨g, off + i * 3 + 2, none⟩) hg).trans c2⟩
/-- A time within a thousand. -/
def t1000 (t : Int) : Int := (t.tmod 1000 + 1000).tmod 1000
def tabStep (t : List Rw) (z : On) : List Rw := addT t (labs z.n) ⟨t1000 z.t, z.v⟩
def tableZ (zs : List On) : List Rw := zs.foldl tabStep []
theorem tableZ_snoc (zs : List On) (z : On) : tableZ (zs ++ [z]) = tabStep (tableZ zs) z := by simp [tableZ, List.foldl_append]
theorem foldTab_len : ∀ (zs : List On) (t : List Rw), (zs.foldl tabStep t).length ≤ t.length + zs.length
  | [], t => by simp
  | z :: zs, t => by
    have h1 := foldTab_len zs (tabStep t z)
    have h2 : (tabStep t z).length ≤ t.length + 1 := addT_len t _ _
    rw [List.foldl_cons, List.length_cons]
    omega
theorem tableZ_len (zs : List On) : (tableZ zs).length ≤ zs.length := by
  have : (tableZ zs).length ≤ ([] : List Rw).length + zs.length := foldTab_len zs []
  simpa using this
theorem TabC.mono {w : World} {K K' : Nat} {v : Value} {rows : List Rw} (h : TabC w K v rows) (hk : K ≤ K') : TabC w K' v rows := by
  obtain ⟨h0, qs, h1, h2, h3⟩ := h
  exact ⟨h0, qs, h1, h2, fun q hq => ⟨⟨(h3 q hq).1.l, (h3 q hq).1.s, (h3 q hq).1.hl, Nat.le_trans (h3 q hq).1.hs hk⟩, (h3 q hq).2⟩⟩
theorem TabR.mono {w : World} {K K' : Nat} {v : Value} {rows : List Rw} (h : TabR w K v rows) (hk : K ≤ K') : TabR w K' v rows := by
  obtain ⟨h0, qs, h1, h2, h3⟩ := h
  exact ⟨h0, qs, h1, h2, fun q hq => ⟨(h3 q hq).l, (h3 q hq).s, (h3 q hq).hl, Nat.le_trans (h3 q hq).hs hk⟩⟩

/-- In new memory. -/
def NewV (B : Nat) : Value → Nat → Prop := fun v _ => ∀ k, v.ownBlock = some k → B ≤ k
theorem TabRP.mono {w : World} {K K' : Nat} {v : Value} {rows : List Rw} {P : Value → Nat → Prop} (h : TabRP w K v rows P) (hk : K ≤ K') : TabRP w K' v rows P := by
  obtain ⟨h0, qs, h1, h2, h3, h4⟩ := h
  exact ⟨h0, qs, h1, h2, fun q hq => ⟨(h3 q hq).l, (h3 q hq).s, (h3 q hq).hl, Nat.le_trans (h3 q hq).hs hk⟩, h4⟩
set_option maxHeartbeats 4000000 in
set_option maxRecDepth 100000 in
theorem table14_n (a : Option Addr) (len cap : Nat) (zs : List On) (w : World) (h : OnR w a len zs) :
    Calls Tryz.prog 18 #[.slice a len cap] w fun e w' => ∃ pv tv, e = .returned (.tuple #[pv, tv]) ∧ TabF w' w.heap.size 40 pv (tableZ zs) ∧ TabNP w' w.heap.size 40 tv (tableZ zs) (NewV w.heap.size) ∧ Below w.heap.size w w' := by
  obtain ⟨hl, hm, hat, hrng⟩ := h
  unfold maxLen at hm
  obtain ⟨N, hN⟩ : ∃ N, N = zs.length := ⟨_, rfl⟩
  rw [← hN] at hl
  have HN := Lib.hid hN
  have HA := Lib.hid hat
  have HR := Lib.hid hrng
  have hN1 : N ≤ len := by omega
  have hN2 : N ≤ 40 := by omega
  have hN3 : len ≤ N ∨ 40 ≤ N := by omega
  have S0 : TabNP (w.alloc (.cells #[] 87)) w.heap.size 0 (.slice (some ⟨w.heap.size, 0, none⟩) 0 0) [] (NewV w.heap.size) := ⟨by simp, [], rfl, ⟨Sl.lit w w.heap.size 2 0 #[] _ (Nat.le_refl _) (by decide) rfl, fun q hq => absurd hq (by simp)⟩, fun q hq => absurd hq (by simp), fun k hk => by have h2 : w.heap.size = k := Option.some.inj hk; omega⟩
  have BA : Below w.heap.size w (w.alloc (.cells #[] 87)) := (Below.refl _ _).alloc (Nat.le_refl _) _
  clear hl hat hrng hN
  go_enter Tryz.func18, Tryz.ntmps18
  go_wp2_with fail
  go_loopw [4, 5, 6] (fun t' i' x' wr => ∃ (i : Nat) (rows : List Rw), i' = .int .i64 i ∧ i ≤ N ∧ Hid (rows = tableZ (zs.take i)) ∧ TabNP wr w.heap.size i t' rows (NewV w.heap.size) ∧ Below w.heap.size w wr) (fun _ i' _ _ => N - (intOf i').toNat)
  case atStart => exact ⟨0, [], rfl, by omega, Lib.hid rfl, S0, BA⟩
  case round =>
    clear S0 BA
    obtain ⟨i, rows, rfl, hi, hrows, htab, hb⟩ := hrel
    have hbz := hb.size
    have hrl : rows.length ≤ i := by
      have := tableZ_len (zs.take i)
      rw [hrows.out]
      rw [List.length_take] at this
      omega
    have HT := Lib.hid htab
    obtain ⟨ta, tc, et⟩ : ∃ ta tc, _ = Value.slice ta rows.length tc := (htab.rp.r.2.choose_spec.2.1).slice
    subst et
    obtain ⟨RL, hRL⟩ : ∃ RL, RL = rows.length := ⟨_, rfl⟩
    rw [← hRL] at HT hrl
    rw [← hRL]
    clear htab
    by_cases hlt : i < N
    · obtain ⟨g, off, rfl, hgl, hcell⟩ := HA.out (by omega)
      obtain ⟨z, hz⟩ : ∃ z, zs[i]? = some z := ⟨zs[i]'(by have := HN.out; omega), List.getElem?_eq_getElem (by have := HN.out; omega)⟩
      obtain ⟨⟨hn0, hn1⟩, ht0, ht1⟩ := HR.out z (List.mem_of_getElem? hz)
      obtain ⟨c0, c1, c2⟩ := hcell i z hz
      have q0 := (hb.cell (p := ⟨g, off + i * 3, none⟩) hgl).trans c0
      have q1 := (hb.cell (p := ⟨g, off + i * 3 + 1, none⟩) hgl).trans c1
      have q2 := (hb.cell (p := ⟨g, off + i * 3 + 2, none⟩) hgl).trans c2
      have STEP := Lib.hid (show tabStep rows z = tableZ (zs.take (i + 1)) by rw [List.take_add_one, hz]; show _ = tableZ (zs.take i ++ [z]); rw [tableZ_snoc, hrows.out])
      obtain ⟨zn, hzn⟩ : ∃ zn, zn = z.n := ⟨_, rfl⟩
      obtain ⟨zt, hzt⟩ : ∃ zt, zt = z.t := ⟨_, rfl⟩
      obtain ⟨zv, hzv⟩ : ∃ zv, zv = z.v := ⟨_, rfl⟩
      rw [← hzn] at q0 hn0 hn1
      rw [← hzt] at q1 ht0 ht1
      rw [← hzv] at q2
      obtain ⟨r, hr⟩ : ∃ r, zt.tmod 1000 = r := ⟨_, rfl⟩
      have hr0 : -1000 < r ∧ r < 1000 := by
        rw [← hr]
        constructor
        · have := Int.lt_tmod_of_pos zt (b := 1000) (by decide); omega
        · exact Int.tmod_lt_of_pos _ (by decide)
      obtain ⟨T, hT⟩ : ∃ T, (IntKind.i64.wrap (r + 1000)).tmod 1000 = T := ⟨_, rfl⟩
      have hwr : IntKind.i64.wrap (r + 1000) = r + 1000 := IntWalk.i64_in _ (by omega)
      have STP := Lib.hid (show addT rows (labs zn) ⟨T, zv⟩ = tableZ (zs.take (i + 1)) by rw [← STEP.out]; unfold tabStep t1000; rw [← hzn, ← hzt, ← hzv, hr, ← hwr, hT])
      have LB := Lib.hid (fun W => labels14_any zn W hn0 hn1)
      have hLL := labs_len zn
      obtain ⟨LS, hLS⟩ : ∃ LS, LS = labs zn := ⟨_, rfl⟩
      rw [← hLS] at LB hLL STP
      have hil : (i : Int) < len := by omega
      have hi4 : (i : Int) < 40 := by omega
      obtain ⟨V1, hV1⟩ : ∃ V1, V1 = wr.alloc (.cells #[.int .u8 zn, .int .i64 zt, .int .u64 zv] 57) := ⟨_, rfl⟩
      have b1 : Below wr.heap.size wr V1 := by rw [hV1]; exact (Below.refl _ _).alloc (Nat.le_refl _) _
      have hx1 : V1.heap[wr.heap.size]? = some (.cells #[.int .u8 zn, .int .i64 zt, .int .u64 zv] 57) := by rw [hV1]; exact heap_alloc_new wr _
      have z1 := (Array.getElem?_eq_some_iff.1 hx1).1
      have FX := Lib.hid (fun W (b : Below V1.heap.size V1 W) => show W.cell? ⟨wr.heap.size, 0, none⟩ = some (.int .u8 zn) ∧ W.cell? ⟨wr.heap.size, 1, none⟩ = some (.int .i64 zt) ∧ W.cell? ⟨wr.heap.size, 2, none⟩ = some (.int .u64 zv) from
        ⟨(b.cell (p := ⟨wr.heap.size, 0, none⟩) z1).trans (Lib.cell_of_heap hx1 0), (b.cell (p := ⟨wr.heap.size, 1, none⟩) z1).trans (Lib.cell_of_heap hx1 1), (b.cell (p := ⟨wr.heap.size, 2, none⟩) z1).trans (Lib.cell_of_heap hx1 2)⟩)
      have HT1 := Lib.hid (HT.out.on b1)
      have BV1 := Lib.hid (hb.trans (b1.mono hbz))
      have B0 := (Below.refl V1.heap.size V1).drew
      have HRL := Lib.hid hRL
      have ADP := Lib.hid (fun (W : World) (a4 : Option Addr) (c4 : Nat) (bb : Below V1.heap.size V1 W) (hr : Rd W 2 (.slice a4 LS.length c4) LS.length (prc LS)) (ho : ∀ k, (Value.slice a4 LS.length c4).ownBlock = some k → w.heap.size ≤ k) => show Calls Tryz.prog 37 #[.slice ta RL tc, .slice a4 LS.length c4, .agg #[.int .i64 T, .int .u64 zv]] W (fun e w' => ∃ v', e = .returned v' ∧ TabNP w' w.heap.size (i + 1) v' (addT rows LS ⟨T, zv⟩) (NewV w.heap.size) ∧ Below W.heap.size W w') from by
          refine (add14_N (NewV w.heap.size) (.slice ta RL tc) (.slice a4 LS.length c4) rows LS ⟨T, zv⟩ i W (fun v n hv k hk => Nat.le_trans (Nat.le_trans BV1.out.size bb.size) (hv k hk)) ho (HT1.out.on bb).rp (by have := HRL.out; omega) hr (by omega) (by omega)).mono ?_
          rintro e w' ⟨v', rfl, h2, h3⟩
          exact ⟨v', rfl, h2.mono (Nat.le_trans BV1.out.size bb.size) (Nat.le_refl _), h3⟩)
      clear hr0 hwr
      clear hz hzn hzt hzv c0 c1 c2 hcell hrows STEP hx1 hLS hb ht0 ht1 b1 hRL hn0 hn1
      go_upto_region 6 with fail
      rw [← hV1]
      clear hV1 q0 q1 q2
      go_region_held3 (fun W => W.cell? ⟨wr.heap.size, 0, none⟩ = some (.int .u8 zn) ∧ W.cell? ⟨wr.heap.size, 1, none⟩ = some (.int .i64 zt) ∧ W.cell? ⟨wr.heap.size, 2, none⟩ = some (.int .u64 zv))
        (first | (refine FX.out _ ?_; assumption) | assumption | fail)
        (first
          | (go_at_call 22; ((with_reducible refine (LB.out _).mono ?_)); rintro e w3 ⟨v3, rfl, s3, b3⟩; obtain ⟨a3, c3, e3⟩ := s3.slice; subst e3; have B3 : Below V1.heap.size V1 w3 := B0.trans (b3.mono B0.size))
          | (go_at_call 36; ((with_reducible refine (told_any (.slice a3 LS.length c3) LS w3 (Rd.of_sl s3) (by omega)).mono ?_)); rintro e w4 ⟨v4, rfl, s4, b4⟩; obtain ⟨a4, c4, e4⟩ := s4.slice; subst e4; have B4 : Below V1.heap.size V1 w4 := B3.trans (b4.mono B3.size))
          | (go_at_call 37; ((with_reducible refine (ADP.out w4 a4 c4 B4 (Rd.of_sl s4) (fun k hk => Nat.le_trans (Nat.le_trans BV1.out.size B3.size) (s4.lt k hk).1)).mono ?_)); rintro e w5 ⟨v5, rfl, t5, b5⟩; have B5 : Below V1.heap.size V1 w5 := B4.trans (b5.mono B4.size))
          | fail)
      go_wp2
      exact ⟨⟨i + 1, addT rows LS ⟨T, zv⟩, by simp, by omega, Lib.hid STP.out, t5, BV1.out.trans (B5.mono BV1.out.size)⟩, by simp [intOf]; omega⟩
    · have hil : ¬ (i : Int) < len ∨ ¬ (i : Int) < 40 := by omega
      obtain rfl : i = N := by omega
      have hrows2 := Lib.hid (show rows = tableZ zs by rw [hrows.out, HN.out, List.take_length])
      have RWS := Lib.hid (fun W (b : Below wr.heap.size wr W) => rows14_any (.slice ta RL tc) rows i W (HT.out.on b).rp.r (by omega) (by omega))
      have HB := Lib.hid hb
      have FIN := Lib.hid (fun W (pv : Value) (b : Below wr.heap.size wr W) (h : TabF W wr.heap.size i pv rows) => show ∃ pv' tv', Ending.returned (.tuple #[pv, .slice ta RL tc]) = .returned (.tuple #[pv', tv']) ∧ TabF W w.heap.size 40 pv' (tableZ zs) ∧ TabNP W w.heap.size 40 tv' (tableZ zs) (NewV w.heap.size) ∧ Below w.heap.size w W from
        ⟨_, _, rfl, by rw [← hrows2.out]; exact h.mono HB.out.size hN2, by rw [← hrows2.out]; exact (HT.out.on b).mono (Nat.le_refl _) hN2, HB.out.trans (b.mono HB.out.size)⟩)
      by_cases hlen : (i : Int) < len
      · have h40 : ¬ (i : Int) < 40 := by omega
        clear hil hrows hrows2 hb hRL
        go_wp2_with fail
        refine (RWS.out _ (Below.refl _ _)).mono ?_
        rintro e w5 ⟨pv, rfl, tp, b5⟩
        have GO := Lib.hid (FIN.out w5 pv b5 tp)
        obtain ⟨pa, pc, ep⟩ : ∃ pa pc, pv = Value.slice pa rows.length pc := (tp.2.choose_spec.2.1).slice
        subst ep
        clear tp b5 FIN RWS
        go_wp2
        go_ret2
        exact GO.out
      · clear hil hrows hrows2 hb hRL
        go_wp2_with fail
        refine (RWS.out _ (Below.refl _ _)).mono ?_
        rintro e w5 ⟨pv, rfl, tp, b5⟩
        have GO := Lib.hid (FIN.out w5 pv b5 tp)
        obtain ⟨pa, pc, ep⟩ : ∃ pa pc, pv = Value.slice pa rows.length pc := (tp.2.choose_spec.2.1).slice
        subst ep
        clear tp b5 FIN RWS
        go_wp2
        go_ret2
        exact GO.out
theorem table14_f (a : Option Addr) (len cap : Nat) (zs : List On) (w : World) (h : OnR w a len zs) :
    Calls Tryz.prog 18 #[.slice a len cap] w fun e w' => ∃ pv tv, e = .returned (.tuple #[pv, tv]) ∧ TabF w' w.heap.size 40 pv (tableZ zs) ∧ TabRP w' 40 tv (tableZ zs) (NewV w.heap.size) ∧ Below w.heap.size w w' := by
  refine (table14_n a len cap zs w h).mono ?_
  rintro e w' ⟨pv, tv, rfl, h1, h2, h3⟩
  exact ⟨pv, tv, rfl, h1, h2.rp, h3⟩
theorem table14_any (a : Option Addr) (len cap : Nat) (zs : List On) (w : World) (h : OnR w a len zs) :
    Calls Tryz.prog 18 #[.slice a len cap] w fun e w' => ∃ pv tv, e = .returned (.tuple #[pv, tv]) ∧ TabC w' 40 pv (tableZ zs) ∧ TabR w' 40 tv (tableZ zs) ∧ Below w.heap.size w w' := by
  refine (table14_f a len cap zs w h).mono ?_
  rintro e w' ⟨pv, tv, rfl, h1, h2, h3⟩
  exact ⟨pv, tv, rfl, h1.c, h2.r, h3⟩
end Go.Proofs.YtfckgcckpfklaaaGreatDoor
