/- Layer 14: slices of slices of samples of series that came in, opened; lists being made in a slice. Layer 14: MergeSamples, walked. -/
import Derived.Test.YtabeaehiidnbbaaDoorMWG
import Derived.Deep.RegionHeld3
namespace Go.Proofs.YtabeaehiidnbbaaDoor
open Go.RowKit Go.Lib Go.Deep Go.ChangeShapes Go.WideShapes Hp
set_option linter.unusedVariables false

structure Ol where
  a : Option Addr
  n : Nat
  c : Nat
  zs : List On
/-- Slices of samples in a slice, read from cells. -/
def OnlR (w : World) (ao : Option Addr) (len : Nat) (L : List Ol) : Prop :=
  len ≤ maxLen ∧ L.length = len ∧ (0 < len → ∃ g off, ao = some ⟨g, off, none⟩ ∧ g < w.heap.size ∧ ∀ j o, L[j]? = some o → w.cell? ⟨g, off + j, none⟩ = some (.slice o.a o.n o.c) ∧ OnR w o.a o.n o.zs)
theorem list_of14 {α : Type} {n : Nat} {P : Nat → α → Prop} (h : ∀ j, j < n → ∃ x, P j x) : ∃ l : List α, l.length = n ∧ ∀ (j : Nat) x, l[j]? = some x → P j x := by
  induction n with
  | zero => exact ⟨[], rfl, fun j x hx => by simp at hx⟩
  | succ n ih =>
    obtain ⟨l, hl, hP⟩ := ih fun j hj => h j (by omega)
    obtain ⟨x, hx⟩ := h n (by omega)
    refine ⟨l ++ [x], by simp [hl], fun j y hy => ?_⟩
    rcases Nat.lt_or_ge j n with hj | hj
    · rw [List.getElem?_append_left (by omega)] at hy
      exact hP j y hy
    · have : j = n := by have := (List.getElem?_eq_some_iff.1 hy).1; simp at this; omega
      subst this
      rw [List.getElem?_append_right (by omega), hl, Nat.sub_self] at hy
      obtain rfl : x = y := by simpa using hy
      exact hx
theorem onl_open {H : Type} {enc : TypeId × Value → H} {W : World} {base : Nat} {spare : Nat → Bool} {held : Bool} {fuel : Nat} {ao : Option Addr} {len cap : Nat} {x : DataW H × List MemPlace}
    (h : DataW.trod enc Tryd.prog W base spare held fuel 22 [.slice ao len cap] = some x) : ∃ L, len ≤ maxLen ∧ OnlR W ao len L := by
  have ce : Tryd.prog.cellsOf 25 = 1 := by kernel_rfl
  rcases DataW.trod_slice Tryd.underlying22 h with ⟨hcs, _⟩ | ⟨a, len', cap', elems, rest, n, _, hcs, _, hb, hl, hm, hlen, hel, _, _⟩
  · simp only [List.cons.injEq, Value.slice.injEq, and_true] at hcs
    obtain ⟨rfl, rfl, rfl⟩ := hcs
    exact ⟨[], Nat.zero_le _, Nat.zero_le _, rfl, fun h => absurd h (Nat.lt_irrefl 0)⟩
  · simp only [List.cons.injEq, Value.slice.injEq, and_true] at hcs
    obtain ⟨rfl, rfl, rfl⟩ := hcs
    have each : ∀ j, j < len → ∃ o : Ol, W.cell? (a.add j) = some (.slice o.a o.n o.c) ∧ OnR W o.a o.n o.zs := fun j hj => by
      have hy := hel j hj
      rw [List.getElem?_eq_getElem (by omega), ce, Nat.mul_one, Option.bind_eq_some_iff] at hy
      obtain ⟨cs', hcs', hy'⟩ := hy
      rcases DataW.trod_slice Tryd.underlying25 hy' with ⟨rfl, _⟩ | ⟨a2, len2, cap2, _, _, _, _, rfl, _⟩
      · obtain ⟨zs, _, hz⟩ := ons_open hy'
        exact ⟨⟨_, _, _, zs⟩, cell_of_cells?_one hcs', hz⟩
      · obtain ⟨zs, _, hz⟩ := ons_open hy'
        exact ⟨⟨_, _, _, zs⟩, cell_of_cells?_one hcs', hz⟩
    obtain ⟨L, hll, hP⟩ := list_of14 each
    refine ⟨L, Nat.le_trans hl hm, Nat.le_trans hl hm, hll, fun h0 => ?_⟩
    obtain ⟨hv, _⟩ := hP 0 (L[0]'(by omega)) (List.getElem?_eq_getElem (by omega))
    obtain ⟨g, off, spot⟩ := a
    have hspot : spot = none := by
      have := World.cell?_spot hv
      simpa [Addr.add] using this
    subst hspot
    have hg := World.block_lt_of_cell? W _ hv
    refine ⟨g, off, rfl, by simpa [Addr.add] using hg, fun j o hj => ?_⟩
    obtain ⟨h1, h2⟩ := hP j o hj
    rw [Addr.add_lit] at h1
    exact ⟨h1, h2⟩

/-- A list as it lies. -/
structure Xi where
  v : Value
  l : List Sp
instance : Inhabited Xi := ⟨⟨.slice none 0 0, []⟩⟩
/-- Lists that are being laid into a slice. -/
structure LsN (w : World) (B : Nat) (v : Value) (qs : List Xi) : Prop where
  sl : Sl w B 1 v qs.length (qs.map Xi.v)
  ok : ∀ q ∈ qs, Rd w 2 q.v q.l.length (spc q.l) ∧ Capd q.v q.l.length ∧ Off q.v q.l.length v
theorem LsN.on {w w' : World} {B : Nat} {v : Value} {qs : List Xi} (h : LsN w B v qs) (b : Below w.heap.size w w') : LsN w' B v qs :=
  ⟨h.sl.on b, fun q hq => ⟨(h.ok q hq).1.on b, (h.ok q hq).2⟩⟩
theorem Ext.off2 {base size size2 n0 n m : Nat} {w w' : World} {v0 v x : Value} {xs0 xs ys : List Value} (h : Ext base size w v0 n0 xs0 w' v n xs) (hr : Rd w size2 x m ys) (ho : Off x m v0) : Off x m v := by
  intro hm k hk
  obtain ⟨g, hg, hlt⟩ := hr.own hm
  have hkg : k = g := Option.some.inj (hk.symm.trans hg)
  rcases h.alias with ⟨a, cap, e0, e1, _⟩ | hnew
  · have := ho hm k hk
    rw [e0] at this
    rw [e1, ownBlock_slice a n n0 cap cap]
    exact this
  · intro e
    have := hnew k e
    omega
theorem LsN.push {w w' : World} {B m c : Nat} {a : Option Addr} {v' x : Value} {qs : List Xi} {l : List Sp} (h : LsN w B (.slice a m c) qs) (hm : m = qs.length) (hx : Ext B 1 w (.slice a m c) m (qs.map Xi.v) w' v' (m + 1) (qs.map Xi.v ++ [x])) (hr : Rd w 2 x l.length (spc l)) (hc : Capd x l.length) (ho : Off x l.length (.slice a m c)) : LsN w' B v' (qs ++ [⟨x, l⟩]) := by
  subst hm
  refine ⟨?_, fun q hq => ?_⟩
  · rw [List.length_append, List.map_append]
    exact hx.now
  · have key : Rd w 2 q.v q.l.length (spc q.l) ∧ Capd q.v q.l.length ∧ Off q.v q.l.length (.slice a qs.length c) := by
      rcases List.mem_append.1 hq with hq | hq
      · exact h.ok q hq
      · rw [List.mem_singleton] at hq
        subst hq
        exact ⟨hr, hc, ho⟩
    obtain ⟨k1, k2, k3⟩ := key
    refine ⟨k1.grown hx.grown (fun hn e => ?_), k2, hx.off2 k1 k3⟩
    obtain ⟨g, hg, _⟩ := k1.own hn
    exact k3 hn g hg (e.symm.trans hg)
def curX (qs : List Xi) (p : Nat) : List Sp := (qs.getD p default).l
def ivX (qs : List Xi) (p : Nat) : Value := (qs.getD p default).v
theorem LsN.read {w : World} {B : Nat} {v : Value} {qs : List Xi} (h : LsN w B v qs) : LsR w v qs.length (curX qs) (ivX qs) := by
  have hg : ∀ p, p < qs.length → ∃ q, qs.getD p default = q ∧ qs[p]? = some q ∧ q ∈ qs := fun p hp => ⟨qs[p], by simp [hp], List.getElem?_eq_getElem hp, List.getElem_mem hp⟩
  refine ⟨?_, fun p hp => ?_, fun p hp => ?_⟩
  · rcases h.sl.2 with ⟨rfl, h0⟩ | ⟨g, off, cap, rfl, hb, hgw, hnc, hcm, hfree, hcell⟩
    · exact ⟨none, 0, 0, 0, by rw [h0], fun hk => by omega, fun p hp => by omega⟩
    · refine ⟨_, cap, g, off, rfl, fun _ => ⟨rfl, hgw⟩, fun p hp => ?_⟩
      obtain ⟨q, h1, h2, h3⟩ := hg p hp
      rw [hcell p (by omega), List.getElem?_map, h2]
      unfold ivX
      rw [h1]; rfl
  · obtain ⟨q, h1, h2, h3⟩ := hg p hp
    unfold ivX curX
    rw [h1]
    exact (h.ok q h3).1
  · obtain ⟨q, h1, h2, h3⟩ := hg p hp
    unfold ivX curX
    rw [h1]
    exact (h.ok q h3).2.1
theorem wantS_congr {c c' : Nat → List Sp} : ∀ k, (∀ p, p < k → c p = c' p) → wantS c k = wantS c' k
  | 0, _ => rfl
  | k + 1, h => by rw [wantS, wantS, wantS_congr k (fun p hp => h p (by omega)), h k (by omega)]
/-- The samples of the first fifteen, put in. -/
def putL (zs : List On) : List Sp := zs.foldl (fun x z => putS x ⟨z.t, z.v⟩) []
theorem putL_snoc (zs : List On) (z : On) : putL (zs ++ [z]) = putS (putL zs) ⟨z.t, z.v⟩ := by simp [putL, List.foldl_append]
theorem putL_len : ∀ (zs : List On) (x : List Sp), (zs.foldl (fun x z => putS x ⟨z.t, z.v⟩) x).length ≤ x.length + zs.length
  | [], x => by simp
  | z :: zs, x => by
    have h1 := putL_len zs (putS x ⟨z.t, z.v⟩)
    have h2 := putS_one x ⟨z.t, z.v⟩
    rw [List.foldl_cons, List.length_cons]
    omega
theorem putL_up (zs : List On) : Up (putL zs) := by
  have : putL zs = (zs.map fun z => (⟨z.t, z.v⟩ : Sp)).foldl putS [] := by unfold putL; rw [List.foldl_map]
  rw [this]
  exact putF_up _ List.Pairwise.nil
theorem putF_len : ∀ (m l : List Sp), (m.foldl putS l).length ≤ l.length + m.length
  | [], l => by simp
  | x :: m, l => by
    have h1 := putF_len m (putS l x)
    have h2 := putS_one l x
    rw [List.foldl_cons, List.length_cons]
    omega
theorem putF_snoc (l m : List Sp) (x : Sp) : (m ++ [x]).foldl putS l = putS (m.foldl putS l) x := by rw [List.foldl_append]; rfl
end Go.Proofs.YtabeaehiidnbbaaDoor

namespace Go.Proofs.YtabeaehiidnbbaaDoor
open Go.RowKit Go.Lib Hp
set_option linter.unusedVariables false

theorem zc_lsmp2 : (Tryd.prog.info? 24).map (fun i => (i.zero, i.size, i.bytes)) = some (some (.slice none 0 0), 1, 24) := by kernel_rfl
set_option maxHeartbeats 8000000 in
set_option maxRecDepth 100000 in
theorem mergesamples_any (a : Option Addr) (len cap : Nat) (L : List Ol) (w : World) (h : OnlR w a len L) :
    Calls Tryd.prog 3 #[.slice a len cap] w fun e w' => e = .returned (.bool true) ∧ Below w.heap.size w w' := by
  obtain ⟨i0, hi, hz0, hz1, hz2⟩ := info_parts zc_lsmp2
  have Hz := Lib.hid hz0; have Hs := Lib.hid hz1; have Hb := Lib.hid hz2; have Hi := Lib.hid hi
  clear hz0 hz1 hz2 hi
  obtain ⟨hlm, hLl, hL⟩ := h
  have hlm63 : len ≤ 9223372036854775807 := by unfold maxLen at hlm; exact hlm
  have HLL := Lib.hid hLl; have HL := Lib.hid hL
  have AW := Lib.hid (fun W => awake14_any W)
  obtain ⟨W1, hW1⟩ : ∃ W1, W1 = (w.alloc (.cells #[] 24)).alloc (.cells #[] 31) := ⟨_, rfl⟩
  have B1 := Lib.hid (show Below w.heap.size w W1 by rw [hW1]; exact ((Below.refl _ _).alloc (Nat.le_refl _) _).alloc (by simp) _)
  have z1 : W1.heap.size = w.heap.size + 2 := by rw [hW1]; simp
  have L0 := Lib.hid (show LsN W1 w.heap.size (.slice (some ⟨w.heap.size, 0, none⟩) 0 0) [] by
    refine ⟨?_, fun q hq => absurd hq (by simp)⟩
    rw [hW1]
    exact (Sl.lit w w.heap.size 1 0 #[] _ (Nat.le_refl _) (by decide) rfl).alloc _)
  have S0 := Lib.hid (show Rd W1 2 (.slice (some ⟨w.heap.size + 1, 0, none⟩) 0 0) 0 (spc []) from ⟨rfl, _, 0, 0, 0, rfl, fun h => absurd h (Nat.lt_irrefl 0), fun j hj => by omega⟩)
  clear hlm hLl hL
  go_enter Tryd.func3, Tryd.ntmps3
  go_upto_region 3 with fail
  rw [← hW1]
  clear hW1
  go_wp2_with fail
  go_loopw [3, 4, 5, 6, 7, 9, 61, 62, 63] (fun l' w' i' _ _ _ _ _ _ wr => ∃ (i : Nat) (qs : List Xi) (la : Option Addr) (lc : Nat) (wl : List Sp), i' = .int .i64 i ∧ l' = .slice la i lc ∧ i ≤ len ∧ i ≤ 5 ∧ qs.length = i ∧ LsN wr w.heap.size l' qs ∧ Hid (∀ q ∈ qs, Up q.l ∧ q.l.length ≤ 15) ∧ Hid (wl = wantS (curX qs) i) ∧ wl.length ≤ i * 15 ∧ Rd wr 2 w' wl.length (spc wl) ∧ Off w' wl.length l' ∧ Below w.heap.size w wr) (fun _ _ i' _ _ _ _ _ _ _ => 5 - (intOf i').toNat)
  case atStart => exact ⟨0, [], _, _, [], rfl, rfl, by omega, by omega, rfl, L0.out, Lib.hid (fun q hq => absurd hq (by simp)), Lib.hid rfl, by simp, S0.out, fun h => absurd h (by simp), B1.out⟩
  case round =>
    clear L0 S0 B1
    obtain ⟨W0, rfl⟩ : ∃ W0, W0 = wr := ⟨_, rfl⟩
    obtain ⟨i, qs, la, lc, wl, rfl, rfl, hi, hi5, hql, hls, hup, hwl, hwll, hwr, hoff, hb⟩ := hrel
    have HQL := Lib.hid hql; have HLS := Lib.hid hls; have HUP := Lib.hid hup.out; have HWL := Lib.hid hwl.out; have HWR := Lib.hid hwr; have HOFF := Lib.hid hoff; have HB := Lib.hid hb
    obtain ⟨wa, wc, rfl⟩ := hwr.slice
    obtain ⟨wn, hwn⟩ : ∃ wn, wn = wl.length := ⟨_, rfl⟩
    rw [← hwn] at HWR HOFF hwll
    rw [← hwn]
    have HWN := Lib.hid hwn
    clear hql hls hup hwl hwr hoff hb hwn
    by_cases hlt : i < len ∧ i < 5
    · obtain ⟨hil, hi5l⟩ := hlt
      obtain ⟨g, off, rfl, hgw, hcell⟩ := HL.out (by omega)
      obtain ⟨o, ho⟩ : ∃ o, L[i]? = some o := ⟨L[i]'(by have := HLL.out; omega), List.getElem?_eq_getElem (by have := HLL.out; omega)⟩
      obtain ⟨co, hon⟩ := hcell i o ho
      have e0 := (HB.out.cell (p := ⟨g, off + i, none⟩) hgw).trans co
      have ONR := Lib.hid (hon.on HB.out)
      have j1 : (i : Int) < len := by omega
      have j2 : (i : Int) < 5 := by omega
      obtain ⟨ao, no, cc, zs⟩ := o
      simp only at e0 ONR
      have hno : no ≤ maxLen := ONR.out.hm
      have hno63 : no ≤ 9223372036854775807 := by unfold maxLen at hno; exact hno
      clear hno
      obtain ⟨V1, hV1⟩ : ∃ V1, V1 = W0.alloc (.cells #[] 31) := ⟨_, rfl⟩
      have b1 : Below W0.heap.size W0 V1 := by rw [hV1]; exact (Below.refl _ _).alloc (Nat.le_refl _) _
      have BV1 := Lib.hid b1
      have X0 := Lib.hid (show Sl V1 W0.heap.size 2 (.slice (some ⟨W0.heap.size, 0, none⟩) 0 0) 0 (spc []) by rw [hV1]; exact Sl.lit W0 W0.heap.size 2 0 #[] _ (Nat.le_refl _) (by decide) rfl)
      clear hcell co hon ho b1
      go_upto_region 7 with fail
      rw [← hV1]
      clear hV1
      go_wp2_with fail
      go_loopw [6, 7] (fun x' k' wx => ∃ (k : Nat) (xl : List Sp), k' = .int .i64 k ∧ k ≤ no ∧ k ≤ 15 ∧ Hid (xl = putL (zs.take k)) ∧ xl.length ≤ k ∧ Sl wx W0.heap.size 2 x' xl.length (spc xl) ∧ Below W0.heap.size W0 wx) (fun _ k' _ => 15 - (intOf k').toNat)
      case atStart => exact ⟨0, [], rfl, by omega, by omega, Lib.hid rfl, by simp, X0.out, BV1.out⟩
      case round =>
        clear X0 BV1
        obtain ⟨V0, rfl⟩ : ∃ V0, V0 = wr := ⟨_, rfl⟩
        obtain ⟨k, xl, rfl, hk, hk15, hxl, hxll, hxs, hxb⟩ := hrel
        have HXL := Lib.hid hxl.out; have HXS := Lib.hid hxs; have HXB := Lib.hid hxb
        obtain ⟨xa, xc, rfl⟩ := hxs.slice
        obtain ⟨xn, hxn⟩ : ∃ xn, xn = xl.length := ⟨_, rfl⟩
        rw [← hxn] at HXS hxll
        rw [← hxn]
        have HXN := Lib.hid hxn
        have c0 := (hxb.cell (p := ⟨g, off + i, none⟩) (Nat.lt_of_lt_of_le hgw HB.out.size)).trans e0
        have hzlen : zs.length = min no 40 := ONR.out.hl
        clear hxl hxs hxb hxn
        by_cases hkt : k < no ∧ k < 15
        · obtain ⟨hk1, hk2⟩ := hkt
          obtain ⟨g2, off2, rfl, hg2, hc2⟩ := ONR.out.at_ (by omega)
          obtain ⟨z, hz⟩ : ∃ z, zs[k]? = some z := ⟨zs[k]'(by omega), List.getElem?_eq_getElem (by omega)⟩
          obtain ⟨_, d1, d2⟩ := hc2 k z hz
          have STEP := Lib.hid (show putS xl ⟨z.t, z.v⟩ = putL (zs.take (k + 1)) by rw [List.take_add_one, hz]; show _ = putL (zs.take k ++ [z]); rw [putL_snoc, HXL.out])
          obtain ⟨zt, hzt⟩ : ∃ zt, zt = z.t := ⟨_, rfl⟩
          obtain ⟨zv, hzv⟩ : ∃ zv, zv = z.v := ⟨_, rfl⟩
          rw [← hzt] at d1 STEP
          rw [← hzv] at d2 STEP
          have FX := Lib.hid (fun W (bb : Below V0.heap.size V0 W) => show W.cell? ⟨g, off + i, none⟩ = some (.slice (some ⟨g2, off2, none⟩) no cc) ∧ W.cell? ⟨g2, off2 + k * 3 + 1, none⟩ = some (.int .i64 zt) ∧ W.cell? ⟨g2, off2 + k * 3 + 2, none⟩ = some (.int .u64 zv) from
            have hz0 := HXB.out.size
            have bw := HXB.out.trans (bb.mono hz0)
            ⟨(bb.cell (p := ⟨g, off + i, none⟩) (Nat.lt_of_lt_of_le (Nat.lt_of_lt_of_le hgw HB.out.size) hz0)).trans c0, (bw.cell (p := ⟨g2, off2 + k * 3 + 1, none⟩) hg2).trans d1, (bw.cell (p := ⟨g2, off2 + k * 3 + 2, none⟩) hg2).trans d2⟩)
          have PUT := Lib.hid (fun W (bb : Below V0.heap.size V0 W) => show Calls Tryd.prog 6 #[.slice xa xn xc, .agg #[.int .i64 zt, .int .u64 zv]] W (fun e w' => ∃ v', e = .returned v' ∧ Sl w' W.heap.size 2 v' (putS xl ⟨zt, zv⟩).length (spc (putS xl ⟨zt, zv⟩)) ∧ Below W.heap.size W w') from
            put14_any (.slice xa xn xc) xl ⟨zt, zv⟩ W (by rw [← HXN.out]; exact (Rd.of_sl HXS.out).on bb) (by have := HXN.out; omega))
          have PLN := Lib.hid (putS_one xl ⟨zt, zv⟩)
          have k1 : (k : Int) < no := by omega
          have k2 : (k : Int) < 15 := by omega
          have k3 : (0 : Int) ≤ k := by omega
          have B0 := (Below.refl V0.heap.size V0).drew
          obtain ⟨_, c1, c2⟩ := FX.out V0 (Below.refl _ _)
          clear hc2 hz d1 d2 hzt hzv hzlen
          go_upto_region 10 with fail
          go_region_held3 (fun W => W.cell? ⟨g, off + i, none⟩ = some (.slice (some ⟨g2, off2, none⟩) no cc) ∧ W.cell? ⟨g2, off2 + k * 3 + 1, none⟩ = some (.int .i64 zt) ∧ W.cell? ⟨g2, off2 + k * 3 + 2, none⟩ = some (.int .u64 zv))
            (first | (refine FX.out _ ?_; assumption) | assumption | fail)
            (first | (go_at_call 6; ((with_reducible refine (PUT.out _ ?_).mono ?_)); exact B0; rintro e w3 ⟨v3, rfl, s3, b3⟩; have B3 : Below V0.heap.size V0 w3 := B0.trans (b3.mono B0.size)) | fail)
          go_wp2
          exact ⟨⟨k + 1, putS xl ⟨zt, zv⟩, by simp, by omega, by omega, Lib.hid STEP.out, by have := PLN.out; have := HXN.out; omega, s3.mono (Nat.le_trans HXB.out.size (by simp)), HXB.out.trans (B3.mono HXB.out.size)⟩, by simp [intOf]; omega⟩
        · have HXF := Lib.hid (show xl = putL (zs.take 15) by
            rw [HXL.out]
            by_cases h15 : k = 15
            · rw [h15]
            · rw [List.take_of_length_le (by omega), List.take_of_length_le (by omega)])
          have hxb := HXB.out
          have xbz := hxb.size
          have XSL := Lib.hid (show Sl V0 W0.heap.size 2 (.slice xa xn xc) xl.length (spc xl) by rw [← HXN.out]; exact HXS.out)
          obtain ⟨Y, hY⟩ : ∃ Y, Y = V0.alloc (.cells #[.slice xa xn xc] 24) := ⟨_, rfl⟩
          have b2 : Below V0.heap.size V0 Y := by rw [hY]; exact (Below.refl _ _).alloc (Nat.le_refl _) _
          have bY0 : Below W0.heap.size W0 Y := hxb.trans (b2.mono xbz)
          have bY : Below w.heap.size w Y := HB.out.trans (bY0.mono HB.out.size)
          have LSY := HLS.out.on bY0
          have slY := LSY.sl
          rw [HQL.out] at slY
          have litY : ∀ j u, [Value.slice xa xn xc][j]? = some u → Y.cell? ((⟨V0.heap.size, 0, none⟩ : Addr).add j) = some u := by
            have := (Sl.lit V0 0 1 1 #[.slice xa xn xc] 24 (Nat.zero_le _) (by decide) rfl).cells
            rw [hY]; exact this
          have hone : ∀ v ∈ [Value.slice xa xn xc], v.oneCell' = true := by
            intro v hv
            rw [List.mem_singleton] at hv
            subst hv
            rfl
          have XY := Lib.hid (show Rd Y 2 (.slice xa xn xc) xl.length (spc xl) from (Rd.of_sl XSL.out).on b2)
          have XCP := Lib.hid XSL.out.capd
          have XOF := Lib.hid (show Off (.slice xa xn xc) xl.length (.slice la i lc) from off_gt (k0 := W0.heap.size) (fun k hk => (XSL.out.lt k hk).1) (fun k hk => (HLS.out.sl.lt k hk).2))
          have WY := Lib.hid (HWR.out.on bY0)
          have LSYH := Lib.hid LSY
          have HY := Lib.hid hY; have BY := Lib.hid bY
          have zY := bY.size
          have PUSH := Lib.hid (fun (w5 : World) (v' : Value) (hx5 : Ext w.heap.size 1 Y (.slice la i lc) i (qs.map Xi.v) w5 v' (i + 1) (qs.map Xi.v ++ [.slice xa xn xc])) => show LsN w5 w.heap.size v' (qs ++ [⟨.slice xa xn xc, xl⟩]) ∧ Rd w5 2 (.slice wa wn wc) wl.length (spc wl) ∧ Off (.slice wa wn wc) wn v' ∧ Rd w5 2 (.slice xa xn xc) xn (spc xl) ∧ Below w.heap.size w w5 ∧ (∃ a5 c5, v' = .slice a5 (i + 1) c5) ∧ ∀ k, v'.ownBlock = some k → k < w5.heap.size from by
            have XYN : Rd Y 2 (.slice xa xn xc) xn (spc xl) := by have := XY.out; rw [← HXN.out] at this; exact this
            have hp := LSYH.out.push HQL.out.symm hx5 XY.out XCP.out XOF.out
            have hww : Rd Y 2 (.slice wa wn wc) wl.length (spc wl) := by rw [← HWN.out]; exact WY.out
            have hwo : Off (.slice wa wn wc) wl.length (.slice la i lc) := by rw [← HWN.out]; exact HOFF.out
            refine ⟨hp, hww.grown hx5.grown (fun hn e => ?_), by have := hx5.off2 hww hwo; rw [← HWN.out] at this; exact this, XYN.grown hx5.grown (fun hn e => ?_), BY.out.trans (hx5.below (Nat.le_refl _) zY), hx5.now.slice, fun k hk => (hx5.now.lt k hk).2⟩
            · obtain ⟨g', hg', _⟩ := hww.own hn
              exact hwo hn g' hg' (e.symm.trans hg')
            · obtain ⟨g', hg', _⟩ := XYN.own hn
              exact XOF.out (by rw [← HXN.out]; exact hn) g' hg' (e.symm.trans hg'))
          have FINQ := Lib.hid (show Up xl ∧ xl.length ≤ 15 by
            rw [HXF.out]
            refine ⟨putL_up _, ?_⟩
            have := putL_len (zs.take 15) []
            simp only [List.length_nil, List.length_take] at this
            unfold putL
            omega)
          clear hxb b2 bY0 bY LSY hY hzlen HXS XSL
          have hcs : ((k : Int) < no ∧ ¬ (k : Int) < 15) ∨ ¬ (k : Int) < no := by omega
          clear hkt
          rcases hcs with ⟨k1, k2⟩ | k1
          all_goals
            go_wp2_with (at_builtin; rw [← HY.out]; refine wpList_append_sl _ rfl _ _ 23 rfl w.heap.size 24 i0 (.slice none 0 0) 1 24 Tryd.underlying23 Hi.out Hz.out Hs.out Hb.out rfl (by decide) _ i _ rfl slY ⟨V0.heap.size, 0, none⟩ 1 1 [.slice xa xn xc] rfl rfl litY hone (by unfold maxLen; omega) (by omega) zY ?_; intro v' w5 hx5; obtain ⟨ls5, wr5, wo5, xr5, b5, ⟨a5, c5, rfl⟩, lt5⟩ := PUSH.out w5 v' hx5; have LS5 := Lib.hid ls5; have WR5 := Lib.hid wr5; have WO5 := Lib.hid wo5; have XR5 := Lib.hid xr5; have B5 := Lib.hid b5; have LT5 := Lib.hid lt5; clear ls5 wr5 wo5 xr5 b5 hx5 lt5)
            go_loopw [4, 9, 63] (fun w' _ j' wy => ∃ (j : Nat) (wl2 : List Sp), j' = .int .i64 j ∧ j ≤ xn ∧ Hid (wl2 = (xl.take j).foldl putS wl) ∧ wl2.length ≤ wn + j ∧ Rd wy 2 w' wl2.length (spc wl2) ∧ Off w' wl2.length (.slice a5 (i + 1) c5) ∧ Below w5.heap.size w5 wy) (fun _ _ j' _ => xn - (intOf j').toNat)
            case' atStart => exact ⟨0, wl, rfl, by omega, Lib.hid rfl, by rw [HWN.out]; omega, WR5.out, by rw [← HWN.out]; exact WO5.out, Below.refl _ _⟩
            case' round =>
              obtain ⟨V2, rfl⟩ : ∃ V2, V2 = wr := ⟨_, rfl⟩
              obtain ⟨j, wl2, rfl, hj, hw2, hw2l, hw2r, hw2o, hyb⟩ := hrel
              have HW2 := Lib.hid hw2.out; have HYB := Lib.hid hyb
              obtain ⟨ua, uc, rfl⟩ := hw2r.slice
              obtain ⟨un, hun⟩ : ∃ un, un = wl2.length := ⟨_, rfl⟩
              rw [← hun] at hw2l hw2r hw2o
              rw [← hun]
              have HW2R := Lib.hid hw2r; have HW2O := Lib.hid hw2o
              have HUN := Lib.hid hun
              have ybz := hyb.size
              clear hw2 hw2r hw2o hun
              by_cases hjt : j < xn
              · obtain ⟨_, _, _, gx, ofx, ex, hgx, hcx⟩ := XR5.out
                cases ex
                obtain ⟨rfl, hgxl⟩ := hgx (by omega)
                obtain ⟨x, hx⟩ : ∃ x, xl[j]? = some x := ⟨xl[j]'(by have := HXN.out; omega), List.getElem?_eq_getElem (by have := HXN.out; omega)⟩
                obtain ⟨d0, d1⟩ := spc_at xl j x hx
                have y0 := (hyb.cell (p := ⟨gx, ofx + j * 2, none⟩) hgxl).trans ((hcx (j * 2) (by omega)).trans d0)
                have y1 := (hyb.cell (p := ⟨gx, ofx + (j * 2 + 1), none⟩) hgxl).trans ((hcx (j * 2 + 1) (by omega)).trans d1)
                rw [← Nat.add_assoc] at y1
                have STEP := Lib.hid (show putS wl2 x = (xl.take (j + 1)).foldl putS wl by rw [List.take_add_one, hx]; show _ = (xl.take j ++ [x]).foldl putS wl; rw [putF_snoc, HW2.out])
                obtain ⟨xt, hxt⟩ : ∃ xt, xt = x.t := ⟨_, rfl⟩
                obtain ⟨xv, hxv⟩ : ∃ xv, xv = x.v := ⟨_, rfl⟩
                rw [← hxt] at y0
                rw [← hxv] at y1
                have i1 : (j : Int) < xn := by omega
                obtain ⟨V3, hV3⟩ : ∃ V3, V3 = V2.alloc (.cells #[.int .i64 xt, .int .u64 xv] 31) := ⟨_, rfl⟩
                have b3 : Below V2.heap.size V2 V3 := by rw [hV3]; exact (Below.refl _ _).alloc (Nat.le_refl _) _
                have hx3 : V3.heap[V2.heap.size]? = some (.cells #[.int .i64 xt, .int .u64 xv] 31) := by rw [hV3]; exact heap_alloc_new V2 _
                have r0 := Lib.cell_of_heap hx3 0
                have r1 := Lib.cell_of_heap hx3 1
                simp at r0 r1
                have PUT := Lib.hid (show Calls Tryd.prog 6 #[.slice ua un uc, .agg #[.int .i64 xt, .int .u64 xv]] V3 (fun e w' => ∃ v', e = .returned v' ∧ Sl w' V3.heap.size 2 v' (putS wl2 x).length (spc (putS wl2 x)) ∧ Below V3.heap.size V3 w') from by
                  rw [hxt, hxv]
                  exact put14_any (.slice ua un uc) wl2 x V3 (by rw [← HUN.out]; exact HW2R.out.on b3) (by have := HUN.out; omega))
                have PLN := Lib.hid (putS_one wl2 x)
                have hb3z := b3.size
                have HY3 := Lib.hid (HYB.out.trans (b3.mono ybz))
                have OF3 := Lib.hid (fun k (hk : (Value.slice a5 (i + 1) c5).ownBlock = some k) => Nat.lt_of_lt_of_le (LT5.out k hk) (Nat.le_trans ybz hb3z))
                clear hx d0 d1 hx3 hxt hxv hyb b3
                go_upto_region 15 with fail
                rw [← hV3]
                clear hV3 y0 y1
                go_wp2_with fail
                refine PUT.out.mono ?_
                rintro e w6 ⟨v6, rfl, s6, b6⟩
                have S6 := Lib.hid s6
                have B6 := Lib.hid (HY3.out.trans (b6.mono HY3.out.size))
                have O6 := Lib.hid (show Off v6 (putS wl2 x).length (.slice a5 (i + 1) c5) from off_gt (k0 := V3.heap.size) (fun k hk => (s6.lt k hk).1) OF3.out)
                clear s6 b6 PUT
                go_wp2
                exact ⟨⟨j + 1, putS wl2 x, by simp, by omega, Lib.hid STEP.out, by have := PLN.out; have := HUN.out; omega, Rd.of_sl S6.out, O6.out, B6.out⟩, by simp [intOf]; omega⟩
              · have i1 : ¬ (j : Int) < xn := by omega
                have hjx : j = xn := by omega
                have HWF := Lib.hid (show wl2 = wantS (curX (qs ++ [⟨.slice xa xn xc, xl⟩])) (i + 1) by
                  have h1 : curX (qs ++ [⟨.slice xa xn xc, xl⟩]) i = xl := by
                    unfold curX
                    rw [List.getD_eq_getElem?_getD, List.getElem?_append_right (by have := HQL.out; omega), HQL.out, Nat.sub_self]
                    rfl
                  have h2 : wantS (curX (qs ++ [⟨.slice xa xn xc, xl⟩])) i = wantS (curX qs) i := wantS_congr i fun p hp => by
                    unfold curX
                    rw [List.getD_eq_getElem?_getD, List.getD_eq_getElem?_getD, List.getElem?_append_left (by have := HQL.out; omega)]
                  rw [wantS, h1, h2, HW2.out, hjx, HXN.out, List.take_length, ← HWL.out])
                have FUP := Lib.hid (show ∀ q ∈ qs ++ [⟨.slice xa xn xc, xl⟩], Up q.l ∧ q.l.length ≤ 15 from fun q hq => by
                  rcases List.mem_append.1 hq with hq | hq
                  · exact HUP.out q hq
                  · rw [List.mem_singleton] at hq
                    subst hq
                    exact FINQ.out)
                have hxn15 : xn ≤ 15 := by have := FINQ.out.2; have := HXN.out; omega
                clear hjt
                go_wp2
                refine ⟨⟨i + 1, qs ++ [⟨.slice xa xn xc, xl⟩], a5, c5, wl2, by simp, rfl, by omega, by omega, by rw [List.length_append, HQL.out]; rfl, LS5.out.on HYB.out, Lib.hid FUP.out, Lib.hid HWF.out, ?_, by rw [← HUN.out]; exact HW2R.out, by rw [← HUN.out]; exact HW2O.out, B5.out.trans (HYB.out.mono B5.out.size)⟩, by simp [intOf]; omega⟩
                have := HUN.out
                omega
    · have hcs : ((i : Int) < len ∧ ¬ (i : Int) < 5) ∨ ¬ (i : Int) < len := by omega
      have hup : ∀ p, p < qs.length → Up (curX qs p) ∧ (curX qs p).length ≤ 15 := fun p hp => by
        have e : qs.getD p default = qs[p] := by simp [hp]
        unfold curX
        rw [e]
        exact HUP.out _ (List.getElem_mem hp)
      have htot : tot (curX qs) qs.length ≤ 5 * 15 := by
        have := tot_le (curX qs) 15 qs.length (fun p hp => (hup p hp).2)
        have h5 : qs.length * 15 ≤ 5 * 15 := Nat.mul_le_mul_right _ (by have := HQL.out; omega)
        omega
      have SM := Lib.hid (show Calls Tryd.prog 7 #[.slice la i lc] W0 (fun e w' => ∃ v', e = .returned v' ∧ Sl w' W0.heap.size 2 v' wn (spc wl) ∧ Below W0.heap.size W0 w') from by
        have := samples_any (.slice la i lc) qs.length (curX qs) (ivX qs) _ W0 HLS.out.read (by have := HQL.out; omega) rfl (by omega)
        rw [merged_want (curX qs) qs.length (fun p hp => (hup p hp).1), HQL.out, ← HWL.out, ← HWN.out] at this
        exact this)
      clear hlt hup htot
      rcases hcs with ⟨k1, k2⟩ | k1
      all_goals
        go_wp2_with fail
        refine SM.out.mono ?_
        rintro e w2 ⟨v2, rfl, s2, b2⟩
        obtain ⟨ga, gc, rfl⟩ := s2.slice
        have GR := Lib.hid (Rd.of_sl s2)
        have WR := Lib.hid (HWR.out.on b2)
        have B2 := Lib.hid (HB.out.trans (b2.mono HB.out.size))
        clear s2 b2 SM
        go_wp2_with fail
        refine (AW.out _).mono ?_
        rintro e w3 ⟨rfl, b3⟩
        have GR3 := Lib.hid (GR.out.on b3)
        have WR3 := Lib.hid (WR.out.on b3)
        have B3 := Lib.hid (B2.out.trans (b3.mono B2.out.size))
        clear b3 GR WR B2
        go_wp2_with fail
        go_loopw [11, 84] (fun _ j' wy => ∃ (j : Nat), j' = .int .i64 j ∧ j ≤ wn ∧ Below w3.heap.size w3 wy) (fun _ j' _ => wn - (intOf j').toNat)
        case' atStart => exact ⟨0, rfl, by omega, Below.refl _ _⟩
        case' round =>
          obtain ⟨V2, rfl⟩ : ∃ V2, V2 = wr := ⟨_, rfl⟩
          obtain ⟨j, rfl, hj, hyb⟩ := hrel
          have HYB := Lib.hid hyb
          by_cases hjt : j < wn
          · obtain ⟨_, _, _, gx, ofx, ex, hgx, hcx⟩ := GR3.out.on hyb
            cases ex
            obtain ⟨rfl, hgxl⟩ := hgx (by omega)
            obtain ⟨_, _, _, gy, ofy, ey, hgy, hcy⟩ := WR3.out.on hyb
            cases ey
            obtain ⟨rfl, hgyl⟩ := hgy (by omega)
            obtain ⟨x, hx⟩ : ∃ x, wl[j]? = some x := ⟨wl[j]'(by have := HWN.out; omega), List.getElem?_eq_getElem (by have := HWN.out; omega)⟩
            obtain ⟨d0, d1⟩ := spc_at wl j x hx
            have y0 := (hcx (j * 2) (by omega)).trans d0
            have y1 := (hcx (j * 2 + 1) (by omega)).trans d1
            have u0 := (hcy (j * 2) (by omega)).trans d0
            have u1 := (hcy (j * 2 + 1) (by omega)).trans d1
            rw [← Nat.add_assoc] at y1 u1
            obtain ⟨xt, hxt⟩ : ∃ xt, xt = x.t := ⟨_, rfl⟩
            obtain ⟨xv, hxv⟩ : ∃ xv, xv = x.v := ⟨_, rfl⟩
            rw [← hxt] at y0 u0
            rw [← hxv] at y1 u1
            have NQ := fun W => neq_smp xt xv W
            have i1 : (j : Int) < wn := by omega
            have i2 : (0 : Int) ≤ j := by omega
            clear hx d0 d1 hxt hxv hcx hcy hyb
            go_wp2
            go_quiet (fail)
            go_wp2
            exact ⟨⟨j + 1, by simp, by omega, below_draw HYB.out _⟩, by simp [intOf]; omega⟩
          · have i1 : ¬ (j : Int) < wn := by omega
            clear hjt hyb
            go_wp2
            go_ret
            exact ⟨rfl, B3.out.trans (HYB.out.mono B3.out.size)⟩
end Go.Proofs.YtabeaehiidnbbaaDoor
