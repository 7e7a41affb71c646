/- Layer 14: Table, walked. Layer 14: the program's rows told as the document's; samples counted; walked. -/
import Derived.Test.YtabeaehiidnbbaaDoorMA5
import Derived.Deep.RegionHeld3
namespace Go.Proofs.YtabeaehiidnbbaaDoor
open Go.RowKit Go.Lib
set_option linter.unusedVariables false

/-- A sample of a series: its name, a time, a value. -/
structure On where
  n : Int
  t : Int
  v : Int
deriving Inhabited
/-- The first forty, read from cells. -/
structure OnR (w : World) (a : Option Addr) (len : Nat) (zs : List On) : Prop where
  hl : zs.length = min len 40
  hm : len ≤ maxLen
  at_ : 0 < len → ∃ g off, a = some ⟨g, off, none⟩ ∧ g < w.heap.size ∧ ∀ i z, zs[i]? = some z → w.cell? ⟨g, off + i * 3, none⟩ = some (.int .u8 z.n) ∧ w.cell? ⟨g, off + i * 3 + 1, none⟩ = some (.int .i64 z.t) ∧ w.cell? ⟨g, off + i * 3 + 2, none⟩ = some (.int .u64 z.v)
  rng : ∀ z ∈ zs, (0 ≤ z.n ∧ z.n ≤ 255) ∧ -9223372036854775808 ≤ z.t ∧ z.t ≤ 9223372036854775807
theorem OnR.on {w w' : World} {a : Option Addr} {len : Nat} {zs : List On} (h : OnR w a len zs) (b : Below w.heap.size w w') : OnR w' a len zs := by
  refine ⟨h.hl, h.hm, fun h0 => ?_, h.rng⟩
  obtain ⟨g, off, he, hg, hc⟩ := h.at_ h0
  refine ⟨g, off, he, Nat.lt_of_lt_of_le hg b.size, fun i z hz => ?_⟩
  obtain ⟨c0, c1, c2⟩ := hc i z hz
  exact ⟨(b.cell (p := ⟨g, off + i * 3, none⟩) hg).trans c0, (b.cell (p := ⟨g, off + i * 3 + 1, none⟩) hg).trans c1, (b.cell (p := ⟨g, off + i * 3 + 2, none⟩) hg).trans c2⟩
/-- A time within a thousand. -/
def t1000 (t : Int) : Int := (t.tmod 1000 + 1000).tmod 1000
def tabStep (t : List Rw) (z : On) : List Rw := addT t (labs z.n) ⟨t1000 z.t, z.v⟩
def tableZ (zs : List On) : List Rw := zs.foldl tabStep []
theorem tableZ_snoc (zs : List On) (z : On) : tableZ (zs ++ [z]) = tabStep (tableZ zs) z := by simp [tableZ, List.foldl_append]
theorem foldTab_len : ∀ (zs : List On) (t : List Rw), (zs.foldl tabStep t).length ≤ t.length + zs.length
  | [], t => by simp
  | z :: zs, t => by
    have h1 := foldTab_len zs (tabStep t z)
    have h2 : (tabStep t z).length ≤ t.length + 1 := addT_len t _ _
    rw [List.foldl_cons, List.length_cons]
    omega
theorem tableZ_len (zs : List On) : (tableZ zs).length ≤ zs.length := by
  have : (tableZ zs).length ≤ ([] : List Rw).length + zs.length := foldTab_len zs []
  simpa using this
theorem TabC.mono {w : World} {K K' : Nat} {v : Value} {rows : List Rw} (h : TabC w K v rows) (hk : K ≤ K') : TabC w K' v rows := by
  obtain ⟨h0, qs, h1, h2, h3⟩ := h
  exact ⟨h0, qs, h1, h2, fun q hq => ⟨⟨(h3 q hq).1.l, (h3 q hq).1.s, (h3 q hq).1.hl, Nat.le_trans (h3 q hq).1.hs hk⟩, (h3 q hq).2⟩⟩
theorem TabR.mono {w : World} {K K' : Nat} {v : Value} {rows : List Rw} (h : TabR w K v rows) (hk : K ≤ K') : TabR w K' v rows := by
  obtain ⟨h0, qs, h1, h2, h3⟩ := h
  exact ⟨h0, qs, h1, h2, fun q hq => ⟨(h3 q hq).l, (h3 q hq).s, (h3 q hq).hl, Nat.le_trans (h3 q hq).hs hk⟩⟩

/-- In new memory. -/
def NewV (B : Nat) : Value → Nat → Prop := fun v _ => ∀ k, v.ownBlock = some k → B ≤ k
theorem TabRP.mono {w : World} {K K' : Nat} {v : Value} {rows : List Rw} {P : Value → Nat → Prop} (h : TabRP w K v rows P) (hk : K ≤ K') : TabRP w K' v rows P := by
  obtain ⟨h0, qs, h1, h2, h3, h4⟩ := h
  exact ⟨h0, qs, h1, h2, fun q hq => ⟨(h3 q hq).l, (h3 q hq).s, (h3 q hq).hl, Nat.le_trans (h3 q hq).hs hk⟩, h4⟩
set_option maxHeartbeats 4000000 in
set_option maxRecDepth 100000 in
theorem table14_n (a : Option Addr) (len cap : Nat) (zs : List On) (w : World) (h : OnR w a len zs) :
    Calls Tryd.prog 9 #[.slice a len cap] w fun e w' => ∃ pv tv, e = .returned (.tuple #[pv, tv]) ∧ TabF w' w.heap.size 40 pv (tableZ zs) ∧ TabNP w' w.heap.size 40 tv (tableZ zs) (NewV w.heap.size) ∧ Below w.heap.size w w' := by
  obtain ⟨hl, hm, hat, hrng⟩ := h
  unfold maxLen at hm
  obtain ⟨N, hN⟩ : ∃ N, N = zs.length := ⟨_, rfl⟩
  rw [← hN] at hl
  have HN := Lib.hid hN
  have HA := Lib.hid hat
  have HR := Lib.hid hrng
  have hN1 : N ≤ len := by omega
  have hN2 : N ≤ 40 := by omega
  have hN3 : len ≤ N ∨ 40 ≤ N := by omega
  have S0 : TabNP (w.alloc (.cells #[] 41)) w.heap.size 0 (.slice (some ⟨w.heap.size, 0, none⟩) 0 0) [] (NewV w.heap.size) := ⟨by simp, [], rfl, ⟨Sl.lit w w.heap.size 2 0 #[] _ (Nat.le_refl _) (by decide) rfl, fun q hq => absurd hq (by simp)⟩, fun q hq => absurd hq (by simp), fun k hk => by have h2 : w.heap.size = k := Option.some.inj hk; omega⟩
  have BA : Below w.heap.size w (w.alloc (.cells #[] 41)) := (Below.refl _ _).alloc (Nat.le_refl _) _
  clear hl hat hrng hN
  go_enter Tryd.func9, Tryd.ntmps9
  go_wp2_with fail
  go_loopw [4, 5, 6] (fun t' i' x' wr => ∃ (i : Nat) (rows : List Rw), i' = .int .i64 i ∧ i ≤ N ∧ Hid (rows = tableZ (zs.take i)) ∧ TabNP wr w.heap.size i t' rows (NewV w.heap.size) ∧ Below w.heap.size w wr) (fun _ i' _ _ => N - (intOf i').toNat)
  case atStart => exact ⟨0, [], rfl, by omega, Lib.hid rfl, S0, BA⟩
  case round =>
    clear S0 BA
    obtain ⟨i, rows, rfl, hi, hrows, htab, hb⟩ := hrel
    have hbz := hb.size
    have hrl : rows.length ≤ i := by
      have := tableZ_len (zs.take i)
      rw [hrows.out]
      rw [List.length_take] at this
      omega
    have HT := Lib.hid htab
    obtain ⟨ta, tc, et⟩ : ∃ ta tc, _ = Value.slice ta rows.length tc := (htab.rp.r.2.choose_spec.2.1).slice
    subst et
    obtain ⟨RL, hRL⟩ : ∃ RL, RL = rows.length := ⟨_, rfl⟩
    rw [← hRL] at HT hrl
    rw [← hRL]
    clear htab
    by_cases hlt : i < N
    · obtain ⟨g, off, rfl, hgl, hcell⟩ := HA.out (by omega)
      obtain ⟨z, hz⟩ : ∃ z, zs[i]? = some z := ⟨zs[i]'(by have := HN.out; omega), List.getElem?_eq_getElem (by have := HN.out; omega)⟩
      obtain ⟨⟨hn0, hn1⟩, ht0, ht1⟩ := HR.out z (List.mem_of_getElem? hz)
      obtain ⟨c0, c1, c2⟩ := hcell i z hz
      have q0 := (hb.cell (p := ⟨g, off + i * 3, none⟩) hgl).trans c0
      have q1 := (hb.cell (p := ⟨g, off + i * 3 + 1, none⟩) hgl).trans c1
      have q2 := (hb.cell (p := ⟨g, off + i * 3 + 2, none⟩) hgl).trans c2
      have STEP := Lib.hid (show tabStep rows z = tableZ (zs.take (i + 1)) by rw [List.take_add_one, hz]; show _ = tableZ (zs.take i ++ [z]); rw [tableZ_snoc, hrows.out])
      obtain ⟨zn, hzn⟩ : ∃ zn, zn = z.n := ⟨_, rfl⟩
      obtain ⟨zt, hzt⟩ : ∃ zt, zt = z.t := ⟨_, rfl⟩
      obtain ⟨zv, hzv⟩ : ∃ zv, zv = z.v := ⟨_, rfl⟩
      rw [← hzn] at q0 hn0 hn1
      rw [← hzt] at q1 ht0 ht1
      rw [← hzv] at q2
      obtain ⟨r, hr⟩ : ∃ r, zt.tmod 1000 = r := ⟨_, rfl⟩
      have hr0 : -1000 < r ∧ r < 1000 := by
        rw [← hr]
        constructor
        · have := Int.lt_tmod_of_pos zt (b := 1000) (by decide); omega
        · exact Int.tmod_lt_of_pos _ (by decide)
      obtain ⟨T, hT⟩ : ∃ T, (IntKind.i64.wrap (r + 1000)).tmod 1000 = T := ⟨_, rfl⟩
      have hwr : IntKind.i64.wrap (r + 1000) = r + 1000 := IntWalk.i64_in _ (by omega)
      have STP := Lib.hid (show addT rows (labs zn) ⟨T, zv⟩ = tableZ (zs.take (i + 1)) by rw [← STEP.out]; unfold tabStep t1000; rw [← hzn, ← hzt, ← hzv, hr, ← hwr, hT])
      have LB := Lib.hid (fun W => labels14_any zn W hn0 hn1)
      have hLL := labs_len zn
      obtain ⟨LS, hLS⟩ : ∃ LS, LS = labs zn := ⟨_, rfl⟩
      rw [← hLS] at LB hLL STP
      have hil : (i : Int) < len := by omega
      have hi4 : (i : Int) < 40 := by omega
      obtain ⟨V1, hV1⟩ : ∃ V1, V1 = wr.alloc (.cells #[.int .u8 zn, .int .i64 zt, .int .u64 zv] 29) := ⟨_, rfl⟩
      have b1 : Below wr.heap.size wr V1 := by rw [hV1]; exact (Below.refl _ _).alloc (Nat.le_refl _) _
      have hx1 : V1.heap[wr.heap.size]? = some (.cells #[.int .u8 zn, .int .i64 zt, .int .u64 zv] 29) := by rw [hV1]; exact heap_alloc_new wr _
      have z1 := (Array.getElem?_eq_some_iff.1 hx1).1
      have FX := Lib.hid (fun W (b : Below V1.heap.size V1 W) => show W.cell? ⟨wr.heap.size, 0, none⟩ = some (.int .u8 zn) ∧ W.cell? ⟨wr.heap.size, 1, none⟩ = some (.int .i64 zt) ∧ W.cell? ⟨wr.heap.size, 2, none⟩ = some (.int .u64 zv) from
        ⟨(b.cell (p := ⟨wr.heap.size, 0, none⟩) z1).trans (Lib.cell_of_heap hx1 0), (b.cell (p := ⟨wr.heap.size, 1, none⟩) z1).trans (Lib.cell_of_heap hx1 1), (b.cell (p := ⟨wr.heap.size, 2, none⟩) z1).trans (Lib.cell_of_heap hx1 2)⟩)
      have HT1 := Lib.hid (HT.out.on b1)
      have BV1 := Lib.hid (hb.trans (b1.mono hbz))
      have B0 := (Below.refl V1.heap.size V1).drew
      have HRL := Lib.hid hRL
      have ADP := Lib.hid (fun (W : World) (a4 : Option Addr) (c4 : Nat) (bb : Below V1.heap.size V1 W) (hr : Rd W 2 (.slice a4 LS.length c4) LS.length (prc LS)) (ho : ∀ k, (Value.slice a4 LS.length c4).ownBlock = some k → w.heap.size ≤ k) => show Calls Tryd.prog 21 #[.slice ta RL tc, .slice a4 LS.length c4, .agg #[.int .i64 T, .int .u64 zv]] W (fun e w' => ∃ v', e = .returned v' ∧ TabNP w' w.heap.size (i + 1) v' (addT rows LS ⟨T, zv⟩) (NewV w.heap.size) ∧ Below W.heap.size W w') from by
          refine (add14_N (NewV w.heap.size) (.slice ta RL tc) (.slice a4 LS.length c4) rows LS ⟨T, zv⟩ i W (fun v n hv k hk => Nat.le_trans (Nat.le_trans BV1.out.size bb.size) (hv k hk)) ho (HT1.out.on bb).rp (by have := HRL.out; omega) hr (by omega) (by omega)).mono ?_
          rintro e w' ⟨v', rfl, h2, h3⟩
          exact ⟨v', rfl, h2.mono (Nat.le_trans BV1.out.size bb.size) (Nat.le_refl _), h3⟩)
      clear hr0 hwr
      clear hz hzn hzt hzv c0 c1 c2 hcell hrows STEP hx1 hLS hb ht0 ht1 b1 hRL hn0 hn1
      go_upto_region 6 with fail
      rw [← hV1]
      clear hV1 q0 q1 q2
      go_region_held3 (fun W => W.cell? ⟨wr.heap.size, 0, none⟩ = some (.int .u8 zn) ∧ W.cell? ⟨wr.heap.size, 1, none⟩ = some (.int .i64 zt) ∧ W.cell? ⟨wr.heap.size, 2, none⟩ = some (.int .u64 zv))
        (first | (refine FX.out _ ?_; assumption) | assumption | fail)
        (first
          | (go_at_call 23; ((with_reducible refine (LB.out _).mono ?_)); rintro e w3 ⟨v3, rfl, s3, b3⟩; obtain ⟨a3, c3, e3⟩ := s3.slice; subst e3; have B3 : Below V1.heap.size V1 w3 := B0.trans (b3.mono B0.size))
          | (go_at_call 22; ((with_reducible refine (told_any (.slice a3 LS.length c3) LS w3 (Rd.of_sl s3) (by omega)).mono ?_)); rintro e w4 ⟨v4, rfl, s4, b4⟩; obtain ⟨a4, c4, e4⟩ := s4.slice; subst e4; have B4 : Below V1.heap.size V1 w4 := B3.trans (b4.mono B3.size))
          | (go_at_call 21; ((with_reducible refine (ADP.out w4 a4 c4 B4 (Rd.of_sl s4) (fun k hk => Nat.le_trans (Nat.le_trans BV1.out.size B3.size) (s4.lt k hk).1)).mono ?_)); rintro e w5 ⟨v5, rfl, t5, b5⟩; have B5 : Below V1.heap.size V1 w5 := B4.trans (b5.mono B4.size))
          | fail)
      go_wp2
      exact ⟨⟨i + 1, addT rows LS ⟨T, zv⟩, by simp, by omega, Lib.hid STP.out, t5, BV1.out.trans (B5.mono BV1.out.size)⟩, by simp [intOf]; omega⟩
    · have hil : ¬ (i : Int) < len ∨ ¬ (i : Int) < 40 := by omega
      obtain rfl : i = N := by omega
      have hrows2 := Lib.hid (show rows = tableZ zs by rw [hrows.out, HN.out, List.take_length])
      have RWS := Lib.hid (fun W (b : Below wr.heap.size wr W) => rows14_any (.slice ta RL tc) rows i W (HT.out.on b).rp.r (by omega) (by omega))
      have HB := Lib.hid hb
      have FIN := Lib.hid (fun W (pv : Value) (b : Below wr.heap.size wr W) (h : TabF W wr.heap.size i pv rows) => show ∃ pv' tv', Ending.returned (.tuple #[pv, .slice ta RL tc]) = .returned (.tuple #[pv', tv']) ∧ TabF W w.heap.size 40 pv' (tableZ zs) ∧ TabNP W w.heap.size 40 tv' (tableZ zs) (NewV w.heap.size) ∧ Below w.heap.size w W from
        ⟨_, _, rfl, by rw [← hrows2.out]; exact h.mono HB.out.size hN2, by rw [← hrows2.out]; exact (HT.out.on b).mono (Nat.le_refl _) hN2, HB.out.trans (b.mono HB.out.size)⟩)
      by_cases hlen : (i : Int) < len
      · have h40 : ¬ (i : Int) < 40 := by omega
        clear hil hrows hrows2 hb hRL
        go_wp2_with fail
        refine (RWS.out _ (Below.refl _ _)).mono ?_
        rintro e w5 ⟨pv, rfl, tp, b5⟩
        have GO := Lib.hid (FIN.out w5 pv b5 tp)
        obtain ⟨pa, pc, ep⟩ : ∃ pa pc, pv = Value.slice pa rows.length pc := (tp.2.choose_spec.2.1).slice
        subst ep
        clear tp b5 FIN RWS
        go_wp2
        go_ret2
        exact GO.out
      · clear hil hrows hrows2 hb hRL
        go_wp2_with fail
        refine (RWS.out _ (Below.refl _ _)).mono ?_
        rintro e w5 ⟨pv, rfl, tp, b5⟩
        have GO := Lib.hid (FIN.out w5 pv b5 tp)
        obtain ⟨pa, pc, ep⟩ : ∃ pa pc, pv = Value.slice pa rows.length pc := (tp.2.choose_spec.2.1).slice
        subst ep
        clear tp b5 FIN RWS
        go_wp2
        go_ret2
        exact GO.out
theorem table14_f (a : Option Addr) (len cap : Nat) (zs : List On) (w : World) (h : OnR w a len zs) :
    Calls Tryd.prog 9 #[.slice a len cap] w fun e w' => ∃ pv tv, e = .returned (.tuple #[pv, tv]) ∧ TabF w' w.heap.size 40 pv (tableZ zs) ∧ TabRP w' 40 tv (tableZ zs) (NewV w.heap.size) ∧ Below w.heap.size w w' := by
  refine (table14_n a len cap zs w h).mono ?_
  rintro e w' ⟨pv, tv, rfl, h1, h2, h3⟩
  exact ⟨pv, tv, rfl, h1, h2.rp, h3⟩
theorem table14_any (a : Option Addr) (len cap : Nat) (zs : List On) (w : World) (h : OnR w a len zs) :
    Calls Tryd.prog 9 #[.slice a len cap] w fun e w' => ∃ pv tv, e = .returned (.tuple #[pv, tv]) ∧ TabC w' 40 pv (tableZ zs) ∧ TabR w' 40 tv (tableZ zs) ∧ Below w.heap.size w w' := by
  refine (table14_f a len cap zs w h).mono ?_
  rintro e w' ⟨pv, tv, rfl, h1, h2, h3⟩
  exact ⟨pv, tv, rfl, h1.c, h2.r, h3⟩
end Go.Proofs.YtabeaehiidnbbaaDoor

namespace Go.Proofs.YtabeaehiidnbbaaDoor
open Go.RowKit Go.Lib
set_option linter.unusedVariables false

set_option maxHeartbeats 4000000 in
set_option maxRecDepth 100000 in
theorem told14_any (tv : Value) (l : List Rw) (K : Nat) (w : World) (h : TabR w K tv l) (hm : l.length ≤ 1000) (hK : K ≤ 10000) :
    Calls Tryd.prog 14 #[tv] w fun e w' => ∃ v', e = .returned v' ∧ TabR w' K v' l ∧ Below w.heap.size w w' := by
  obtain ⟨i0, hi, hz0, hz1, hz2⟩ := info_parts zc_rrow
  have Hz := Lib.hid hz0; have Hs := Lib.hid hz1; have Hb := Lib.hid hz2; have Hi := Lib.hid hi
  clear hz0 hz1 hz2 hi
  obtain ⟨-, qs0, hqs, ⟨_, a, cap, g, off, rfl, hg, hc⟩, hok⟩ := h
  obtain ⟨n, hn⟩ : ∃ n, n = l.length := ⟨_, rfl⟩
  rw [← hn] at hg hc hm ⊢
  have hq0 : qs0.length = n := by rw [hn, ← hqs, List.length_map]
  have HN := Lib.hid hn
  have HC := Lib.hid hc
  have HG := Lib.hid hg
  have HQ0 := Lib.hid hq0
  have HOK := Lib.hid hok
  have HQS := Lib.hid hqs
  have S0 : TabN (w.alloc (.cells #[] 41)) w.heap.size K (.slice (some ⟨w.heap.size, 0, none⟩) 0 0) [] := ⟨Sl.lit w w.heap.size 2 0 #[] _ (Nat.le_refl _) (by decide) rfl, fun q hq => absurd hq (by simp)⟩
  have BA : Below w.heap.size w (w.alloc (.cells #[] 41)) := (Below.refl _ _).alloc (Nat.le_refl _) _
  clear hn hc hg hq0 hok hqs
  go_enter Tryd.func14, Tryd.ntmps14
  go_wp2_with fail
  go_loopw [3, 5, 9] (fun p' x' i' wr => ∃ (i : Nat) (qs : List Rq), i' = .int .i64 i ∧ i ≤ n ∧ Hid (qs.map Rq.r = l.take i) ∧ TabN wr w.heap.size K p' qs ∧ Below w.heap.size w wr) (fun _ _ i' _ => n - (intOf i').toNat)
  case atStart => exact ⟨0, [], rfl, by omega, Lib.hid rfl, S0, BA⟩
  case round =>
    clear S0 BA
    obtain ⟨W0, rfl⟩ : ∃ W0, W0 = wr := ⟨_, rfl⟩
    obtain ⟨i, qs, rfl, hi, hof, hown, hb⟩ := hrel
    have hbz := hb.size
    have hol : qs.length = i := by
      have := congrArg List.length hof.out
      rw [List.length_map, List.length_take] at this
      have := HN.out
      omega
    obtain ⟨oa, oc, he⟩ := hown.sl.slice
    subst he
    have HOB := Lib.hid (fun k hk => (hown.sl.lt k hk).2)
    have HOB1 := Lib.hid (fun k hk => (hown.sl.lt k hk).1)
    rw [hol] at hown HOB HOB1 ⊢
    have HML := Lib.hid hol.symm
    have BW := Lib.hid hb
    have HOWN := Lib.hid hown
    have slw := hown.sl
    rw [hol] at slw
    have SLW := Lib.hid slw
    clear hol hown slw
    by_cases hlt : i < n
    · obtain ⟨rfl, hgl⟩ := HG.out (by omega)
      obtain ⟨⟨qa, qb, rl, rs⟩, hx⟩ : ∃ q, qs0[i]? = some q := ⟨qs0[i]'(by have := HQ0.out; omega), List.getElem?_eq_getElem (by have := HQ0.out; omega)⟩
      obtain ⟨v0, v1⟩ := rqc_at qs0 i _ hx
      have hli : l[i]? = some ⟨rl, rs⟩ := by rw [← HQS.out, List.getElem?_map, hx]; rfl
      have ok := HOK.out _ (List.mem_of_getElem? hx)
      have q0 := ((hb.cell (p := ⟨g, off + i * 2, none⟩) hgl).trans (HC.out (i * 2) (by omega))).trans v0
      have q1 := ((hb.cell (p := ⟨g, off + (i * 2 + 1), none⟩) hgl).trans (HC.out (i * 2 + 1) (by omega))).trans v1
      rw [← Nat.add_assoc] at q1
      obtain ⟨kl, ks, kn, kk⟩ := ok
      simp only at kl ks kn kk q0 q1
      obtain ⟨aa, ca, ea⟩ := kl.slice
      obtain ⟨ab, cb', eb⟩ := ks.slice
      subst ea eb
      obtain ⟨NL, hNL⟩ : ∃ NL, NL = rl.length := ⟨_, rfl⟩
      obtain ⟨NS, hNS⟩ : ∃ NS, NS = rs.length := ⟨_, rfl⟩
      rw [← hNL] at kl kn q0
      rw [← hNS] at ks kk q1
      have HNL := Lib.hid hNL; have HNS := Lib.hid hNS
      have KS := Lib.hid ks; have KL := Lib.hid kl
      have hil : (i : Int) < n := by omega
      have STEP := Lib.hid (show l.take (i + 1) = qs.map Rq.r ++ [⟨rl, rs⟩] by rw [List.take_add_one, hli, hof.out]; rfl)
      obtain ⟨V1, hV1⟩ : ∃ V1, V1 = W0.alloc (.cells #[.slice aa NL ca, .slice ab NS cb'] 57) := ⟨_, rfl⟩
      have b1 : Below W0.heap.size W0 V1 := by rw [hV1]; exact (Below.refl _ _).alloc (Nat.le_refl _) _
      have y1 : V1.heap.size = W0.heap.size + 1 := by rw [hV1]; simp
      have hx1 : V1.heap[W0.heap.size]? = some (.cells #[.slice aa NL ca, .slice ab NS cb'] 57) := by rw [hV1]; exact heap_alloc_new W0 _
      have z1 := (Array.getElem?_eq_some_iff.1 hx1).1
      have FX := Lib.hid (fun W (b : Below V1.heap.size V1 W) => show W.cell? ⟨W0.heap.size, 0, none⟩ = some (.slice aa NL ca) ∧ W.cell? ⟨W0.heap.size, 1, none⟩ = some (.slice ab NS cb') from
        ⟨(b.cell (p := ⟨W0.heap.size, 0, none⟩) z1).trans (Lib.cell_of_heap hx1 0), (b.cell (p := ⟨W0.heap.size, 1, none⟩) z1).trans (Lib.cell_of_heap hx1 1)⟩)
      have TL := Lib.hid (fun W (b : Below V1.heap.size V1 W) => show Calls Tryd.prog 22 #[.slice aa NL ca] W (fun e w' => ∃ v', e = .returned v' ∧ Sl w' W.heap.size 2 v' NL (prc rl) ∧ Below W.heap.size W w') by
        have bw := BW.out.trans ((b1.trans (b.mono b1.size)).mono BW.out.size)
        have h := told_any (.slice aa NL ca) rl W (by rw [← HNL.out]; exact KL.out.on bw) (by have := HNL.out; omega)
        rw [HNL.out] at h ⊢
        exact h)
      have B0 := (Below.refl V1.heap.size V1).drew
      have HB1 := Lib.hid b1
      have hsz0 : W0.heap.size < V1.heap.size := z1
      clear hx hNL hNS v0 v1 hli ks kl hof hx1 b1 hb y1 z1
      go_upto_region 5 with fail
      rw [← hV1]
      clear hV1 q0 q1
      go_region_held3 (fun W => W.cell? ⟨W0.heap.size, 0, none⟩ = some (.slice aa NL ca) ∧ W.cell? ⟨W0.heap.size, 1, none⟩ = some (.slice ab NS cb'))
        (first | (refine FX.out _ ?_; assumption) | exact FX.out _ (b3v _) | assumption | fail)
        (first
          | (go_at_call 22; ((with_reducible refine (TL.out _ B0).mono ?_)); rintro e w3 ⟨v3, rfl, s3, b3⟩; obtain ⟨a3, c3, e3⟩ := s3.slice; subst e3; have B3 : Below V1.heap.size V1 w3 := B0.trans (b3.mono B0.size); have b3v : ∀ o, Below V1.heap.size V1 (w3.alloc o) := fun o => B3.alloc B3.size o; have b3a : ∀ o, Below W0.heap.size W0 (w3.alloc o) := fun o => HB1.out.trans ((b3v o).mono HB1.out.size); have slA : ∀ o, Sl (w3.alloc o) w.heap.size 2 (.slice oa i oc) i (rqc qs) := fun o => SLW.out.on (b3a o); have szA : ∀ o, w.heap.size ≤ (w3.alloc o).heap.size := fun o => Nat.le_trans hbz (b3a o).size; have z3 : W0.heap.size < w3.heap.size := Nat.lt_of_lt_of_le hsz0 B3.size)
          | (refine step_append_sl rfl (.tmp 13) (.tmp 20) 36 rfl w.heap.size 41 i0 (.agg #[.slice none 0 0, .slice none 0 0]) 2 48 Tryd.underlying36 Hi.out Hz.out Hs.out Hb.out rfl (by decide) (.slice oa i oc) i (rqc qs) (by simp [Act.eval]) (slA _) ⟨w3.heap.size, 0, none⟩ 1 1 [.slice a3 NL c3, .slice ab NS cb'] (by simp [Act.eval]) rfl (lit_row w3 _ _ _ _ rfl) (row_one _ _ _ _ _ _) (by unfold maxLen; omega) (by omega) (szA _) ?_; intro v6 w6 x6; have f6 := FX.out _ (b3v (.cells #[.slice a3 NL c3, .slice ab NS cb'] 41)); have r0 : w6.cell? ⟨W0.heap.size, 0, none⟩ = some (.slice aa NL ca) ∧ w6.cell? ⟨W0.heap.size, 1, none⟩ = some (.slice ab NS cb') := ⟨(x6.cell_old ⟨W0.heap.size, 0, none⟩ (by show W0.heap.size < (w3.alloc _).heap.size; simp; omega) (fun k hk e => by have := HOB.out k hk; exact absurd e (by show k ≠ W0.heap.size; omega))).trans f6.1, (x6.cell_old ⟨W0.heap.size, 1, none⟩ (by show W0.heap.size < (w3.alloc _).heap.size; simp; omega) (fun k hk e => by have := HOB.out k hk; exact absurd e (by show k ≠ W0.heap.size; omega))).trans f6.2⟩)
          | fail)
      go_wp2
      have hx7 : Ext w.heap.size 2 (w3.alloc (.cells #[.slice a3 NL c3, .slice ab NS cb'] 41)) (.slice oa i oc) i (rqc qs) w6 v6 (i + 1) (rqc qs ++ [.slice a3 NL c3, .slice ab NS cb']) := x6
      have bY := b3a (.cells #[.slice a3 NL c3, .slice ab NS cb'] 41)
      have bw := BW.out.trans (bY.mono BW.out.size)
      have bN : Below w3.heap.size w3 (w3.alloc (.cells #[.slice a3 NL c3, .slice ab NS cb'] 41)) := (Below.refl _ _).alloc (Nat.le_refl _) _
      have OKR : RowOk (w3.alloc (.cells #[.slice a3 NL c3, .slice ab NS cb'] 41)) K ⟨.slice a3 NL c3, .slice ab NS cb', ⟨rl, rs⟩⟩ := ⟨(by rw [← HNL.out]; exact (Rd.of_sl s3).on bN), (by rw [← HNS.out]; exact KS.out.on bw), (by have := HNL.out; show rl.length ≤ 1000; omega), (by have := HNS.out; show rs.length ≤ K; omega)⟩
      have T8 := tab_push HML.out (HOWN.out.on bY) hx7 OKR (by rw [← HNL.out]; exact off_gt (k0 := W0.heap.size) (fun k hk => by have h : V1.heap.size ≤ k := (s3.lt k hk).1; omega) HOB.out) (by rw [← HNS.out]; exact off_lt (fun h k hk => KS.out.lt h k hk) HOB1.out)
      exact ⟨⟨i + 1, qs ++ [⟨.slice a3 NL c3, .slice ab NS cb', ⟨rl, rs⟩⟩], by simp, by omega, Lib.hid (by rw [STEP.out, List.map_append]; rfl), T8, bw.trans (hx7.below (Nat.le_refl _) bw.size)⟩, by simp [intOf]; omega⟩
    · have hil : ¬ (i : Int) < n := by omega
      obtain rfl : i = n := by omega
      have HOF := Lib.hid (show qs.map Rq.r = l by rw [hof.out, HN.out, List.take_length])
      clear hof
      go_wp2
      go_ret
      exact ⟨_, rfl, by have h := HOWN.out.read (by have := HML.out; omega); rw [HOF.out] at h; exact h, BW.out⟩

/-- How many samples. -/
def cntZ (l : List Rw) : Nat := (l.map fun r => r.ss.length).sum
theorem cntZ_snoc (l : List Rw) (r : Rw) : cntZ (l ++ [r]) = cntZ l + r.ss.length := by simp [cntZ]
theorem cntZ_le (K : Nat) : ∀ l : List Rw, (∀ r ∈ l, r.ss.length ≤ K) → cntZ l ≤ l.length * K
  | [], _ => by simp [cntZ]
  | r :: l, h => by
    have h1 := cntZ_le K l (fun x hx => h x (List.mem_cons_of_mem _ hx))
    have h2 := h r (List.mem_cons_self ..)
    have h3 : cntZ (r :: l) = r.ss.length + cntZ l := by simp [cntZ]
    rw [h3, List.length_cons, Nat.add_mul]
    omega

set_option maxHeartbeats 2000000 in
set_option maxRecDepth 100000 in
theorem count14_any (tv : Value) (l : List Rw) (K : Nat) (w : World) (h : TabR w K tv l) (hm : l.length ≤ 1000) (hK : K ≤ 10000) :
    Calls Tryd.prog 20 #[tv] w fun e w' => e = .returned (.int .i64 (cntZ l)) ∧ Below w.heap.size w w' := by
  obtain ⟨-, qs0, hqs, ⟨_, a, cap, g, off, rfl, hg, hc⟩, hok⟩ := h
  obtain ⟨n, hn⟩ : ∃ n, n = l.length := ⟨_, rfl⟩
  rw [← hn] at hg hc hm ⊢
  have hq0 : qs0.length = n := by rw [hn, ← hqs, List.length_map]
  have HN := Lib.hid hn
  have HC := Lib.hid hc
  have HG := Lib.hid hg
  have HQ0 := Lib.hid hq0
  have HOK := Lib.hid hok
  have HQS := Lib.hid hqs
  have HLE := Lib.hid (show ∀ i, cntZ (l.take i) ≤ 10000000 from fun i => by
    have h1 := cntZ_le K (l.take i) (fun r hr => by
      have hr2 := List.mem_of_mem_take hr
      rw [← hqs] at hr2
      obtain ⟨q, hq, rfl⟩ := List.mem_map.1 hr2
      exact (hok q hq).hs)
    have h2 : (l.take i).length ≤ 1000 := by rw [List.length_take]; omega
    have h3 : (l.take i).length * K ≤ 1000 * 10000 := Nat.mul_le_mul h2 hK
    omega)
  clear hn hc hg hq0 hok hqs
  go_enter Tryd.func20, Tryd.ntmps20
  go_wp2_with fail
  go_loopw [3, 5, 8] (fun c' x' i' wr => ∃ (i c : Nat), i' = .int .i64 i ∧ i ≤ n ∧ c' = .int .i64 c ∧ Hid (c = cntZ (l.take i)) ∧ Below w.heap.size w wr) (fun _ _ i' _ => n - (intOf i').toNat)
  case atStart => exact ⟨0, 0, rfl, by omega, rfl, Lib.hid (by simp [cntZ]), Below.refl _ _⟩
  case round =>
    obtain ⟨i, c, rfl, hi, rfl, hcz, hb⟩ := hrel
    have hbz := hb.size
    by_cases hlt : i < n
    · obtain ⟨rfl, hgl⟩ := HG.out (by omega)
      obtain ⟨⟨qa, qb, rl, rs⟩, hx⟩ : ∃ q, qs0[i]? = some q := ⟨qs0[i]'(by have := HQ0.out; omega), List.getElem?_eq_getElem (by have := HQ0.out; omega)⟩
      obtain ⟨v0, v1⟩ := rqc_at qs0 i _ hx
      have hli : l[i]? = some ⟨rl, rs⟩ := by rw [← HQS.out, List.getElem?_map, hx]; rfl
      have ok := HOK.out _ (List.mem_of_getElem? hx)
      have q0 := ((hb.cell (p := ⟨g, off + i * 2, none⟩) hgl).trans (HC.out (i * 2) (by omega))).trans v0
      have q1 := ((hb.cell (p := ⟨g, off + (i * 2 + 1), none⟩) hgl).trans (HC.out (i * 2 + 1) (by omega))).trans v1
      rw [← Nat.add_assoc] at q1
      obtain ⟨kl, ks, kn, kk⟩ := ok
      simp only at kl ks kn kk q0 q1
      obtain ⟨aa, ca, ea⟩ := kl.slice
      obtain ⟨ab, cb', eb⟩ := ks.slice
      subst ea eb
      obtain ⟨NL, hNL⟩ : ∃ NL, NL = rl.length := ⟨_, rfl⟩
      obtain ⟨NS, hNS⟩ : ∃ NS, NS = rs.length := ⟨_, rfl⟩
      rw [← hNL] at q0
      rw [← hNS] at q1 kk
      have hil : (i : Int) < n := by omega
      have STEP := Lib.hid (show c + NS = cntZ (l.take (i + 1)) by rw [List.take_add_one, hli, hcz.out, hNS]; exact (cntZ_snoc (l.take i) ⟨rl, rs⟩).symm)
      have hc1 : c ≤ 10000000 := by rw [hcz.out]; exact HLE.out i
      clear hx hNL hNS v0 v1 hli ks kl hcz
      go_wp2
      refine ⟨⟨i + 1, c + NS, by simp, by omega, by simp, STEP, (hb.alloc hbz _)⟩, by simp [intOf]; omega⟩
    · have hil : ¬ (i : Int) < n := by omega
      obtain rfl : i = n := by omega
      have HOF := Lib.hid (show c = cntZ l by rw [hcz.out, HN.out, List.take_length])
      clear hcz
      go_wp2
      go_ret
      rw [← HOF.out]
      exact ⟨rfl, hb⟩
end Go.Proofs.YtabeaehiidnbbaaDoor
