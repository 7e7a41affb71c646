/- Layer 14: tables that agree, in plain words. Layer 14: agree, walked. -/
import Derived.Test.YtcmalckaekbomaaDoorMWN
import Derived.Deep.RegionHeld3
namespace Go.Proofs.YtcmalckaekbomaaDoor
open Go.RowKit Go.Lib Hp
set_option linter.unusedVariables false

/-- A sample whose value hangs on its series and time alone. -/
def ag (z : On) : On := ⟨z.n, z.t, t1000 z.t * 5 + z.n.tmod 5⟩
def Val (ps : Ps) : Prop := ∀ p ∈ ps, ∃ n : Nat, n < 5 ∧ p.1 = lab5 n ∧ p.2.v = p.2.t * 5 + n
theorem lab5_inj {m n : Nat} (hm : m < 5) (hn : n < 5) (h : lab5 m = lab5 n) : m = n := by
  have hd : ∀ m, m < 5 → ∀ n, n < 5 → lab5 m = lab5 n → m = n := by decide
  exact hd m hm n hn h
theorem lookP_some {ps : Ps} {ls : List Pr} {a : Int} {s : Sp} (h : lookP ps ls a = some s) : ∃ p ∈ ps, p.1 = ls ∧ p.2.t = a ∧ p.2 = s := by
  induction ps with
  | nil => cases h
  | cons p ps ih =>
    rw [lookP] at h
    by_cases hp : p.1 = ls ∧ p.2.t = a
    · rw [if_pos hp] at h
      exact ⟨p, by simp, hp.1, hp.2, Option.some.inj h⟩
    · rw [if_neg hp] at h
      obtain ⟨q, hq, h2⟩ := ih h
      exact ⟨q, by simp [hq], h2⟩
theorem val_one {ps qs : Ps} (hp : Val ps) (hq : Val qs) {ls : List Pr} {a : Int} {s u : Sp} (h1 : lookP ps ls a = some s) (h2 : lookP qs ls a = some u) : s = u := by
  obtain ⟨p, hp1, e1, e2, rfl⟩ := lookP_some h1
  obtain ⟨q, hq1, f1, f2, rfl⟩ := lookP_some h2
  obtain ⟨m, hm, g1, g2⟩ := hp p hp1
  obtain ⟨n, hn, k1, k2⟩ := hq q hq1
  have hmn : m = n := lab5_inj hm hn (by rw [← g1, e1, ← f1, k1])
  obtain ⟨_, ⟨pt, pv⟩⟩ := p
  obtain ⟨_, ⟨qt, qv⟩⟩ := q
  simp only at e2 f2 g2 k2
  subst e2 hmn
  subst f2
  rw [g2, k2]
theorem val_comm {ps qs : Ps} (hp : Val ps) (hq : Val qs) (ls : List Pr) (a : Int) : (lookP ps ls a).or (lookP qs ls a) = (lookP qs ls a).or (lookP ps ls a) := by
  cases h1 : lookP ps ls a with
  | none => cases lookP qs ls a <;> rfl
  | some s =>
    cases h2 : lookP qs ls a with
    | none => rfl
    | some u => rw [val_one hp hq h1 h2]
theorem val_ag (zs : List On) (h : ∀ z ∈ zs, 0 ≤ z.n ∧ z.n ≤ 255) : Val ((zs.map ag).map onP) := by
  intro p hp
  obtain ⟨y, hy, rfl⟩ := List.mem_map.1 hp
  obtain ⟨z, hz, rfl⟩ := List.mem_map.1 hy
  obtain ⟨h0, h1⟩ := h z hz
  have ht : 0 ≤ z.n.tmod 5 ∧ z.n.tmod 5 < 5 := ⟨Int.tmod_nonneg _ h0, Int.tmod_lt_of_pos _ (by decide)⟩
  refine ⟨(z.n.tmod 5).toNat, by omega, rfl, ?_⟩
  show t1000 z.t * 5 + z.n.tmod 5 = t1000 z.t * 5 + ((z.n.tmod 5).toNat : Nat)
  omega
theorem order_turn {A B C : Ps} (ha : Val A) (hb : Val B) (hc : Val C) : addF [] ([C, A, B]).flatten = addF [] ([A, B, C]).flatten := addF_one fun ls a => by
  simp only [List.flatten_cons, List.flatten_nil, List.append_nil]
  rw [lookP_append, lookP_append, lookP_append, lookP_append]
  have hab : Val (A ++ B) := fun p hp => by
    rcases List.mem_append.1 hp with hp | hp
    · exact ha p hp
    · exact hb p hp
  have := val_comm hc hab ls a
  rw [lookP_append] at this
  rw [this, Option.or_assoc]
theorem order_left (A B C : Ps) : ([([A, B]).flatten, C]).flatten = ([A, B, C]).flatten := by simp
theorem order_right (A B C : Ps) : ([A, ([B, C]).flatten]).flatten = ([A, B, C]).flatten := by simp
end Go.Proofs.YtcmalckaekbomaaDoor

namespace Go.Proofs.YtcmalckaekbomaaDoor
open Go.RowKit Go.Lib Hp
set_option linter.unusedVariables false

theorem zc_one : (Tryd.prog.info? 50).map (fun i => (i.zero, i.size, i.bytes)) = some (some (.agg #[.int .u8 0, .int .i64 0, .int .u64 0]), 3, 24) := by kernel_rfl
/-- A slice that came in, within its capacity. -/
def OnC (w : World) (a : Option Addr) (len cap : Nat) (zs : List On) : Prop := OnR w a len zs ∧ len ≤ cap ∧ cap ≤ maxLen ∧ (a = none → len = 0 ∧ cap = 0)
theorem onc_append (l m : List On) : onc (l ++ m) = onc l ++ onc m := by simp [onc]
theorem onc_len (l : List On) : (onc l).length = l.length * 3 := by
  induction l with
  | nil => rfl
  | cons s l ih =>
    show ([Value.int .u8 s.n, .int .i64 s.t, .int .u64 s.v] ++ onc l).length = _
    rw [List.length_append, ih]
    simp only [List.length_cons, List.length_nil]
    omega
theorem onc_one (l : List On) : ∀ v ∈ onc l, v.oneCell' = true := by
  intro v hv
  simp only [onc, List.mem_flatMap, List.mem_cons, List.not_mem_nil, or_false] at hv
  obtain ⟨s, _, rfl | rfl | rfl⟩ := hv <;> rfl
theorem onc_setV : ∀ (l : List On) (k : Nat) (z : On) (u : Int), l[k]? = some z → (onc l).set (k * 3 + 2) (.int .u64 u) = onc (l.set k ⟨z.n, z.t, u⟩)
  | [], k, z, u, h => by simp at h
  | y :: l, 0, z, u, h => by
    simp only [List.getElem?_cons_zero, Option.some.injEq] at h
    subst h
    rfl
  | y :: l, k + 1, z, u, h => by
    have ih := onc_setV l k z u (by simpa using h)
    rw [show (k + 1) * 3 + 2 = k * 3 + 2 + 1 + 1 + 1 by omega]
    show ([Value.int .u8 y.n, .int .i64 y.t, .int .u64 y.v] ++ onc l).set (k * 3 + 2 + 1 + 1 + 1) _ = _
    simp only [List.cons_append, List.nil_append, List.set_cons_succ, List.set]
    rw [ih]
    rfl
/-- A slice's first samples, only read. -/
theorem OnR.rd {w : World} {a : Option Addr} {len n cap : Nat} {zs : List On} (h : OnR w a len zs) (hn : n ≤ len) (hn40 : n ≤ 40) : Rd w 3 (.slice a n cap) n (onc (zs.take n)) := by
  have hl : (zs.take n).length = n := by rw [List.length_take, h.hl]; omega
  rcases Nat.eq_zero_or_pos n with rfl | hp
  · exact ⟨by simp [onc], a, cap, 0, 0, rfl, fun h => absurd h (Nat.lt_irrefl 0), fun j hj => absurd hj (by omega)⟩
  · obtain ⟨g, off, he, hg, hc⟩ := h.at_ (by omega)
    refine ⟨by rw [onc_len, hl], a, cap, g, off, rfl, fun _ => ⟨he, hg⟩, fun j hj => ?_⟩
    have hi : j / 3 < n := by omega
    obtain ⟨z, hz⟩ : ∃ z, zs[j / 3]? = some z := ⟨zs[j / 3]'(by have := h.hl; omega), List.getElem?_eq_getElem (by have := h.hl; omega)⟩
    have hz2 : (zs.take n)[j / 3]? = some z := by rw [List.getElem?_take, if_pos hi]; exact hz
    obtain ⟨c0, c1, c2⟩ := hc (j / 3) z hz
    obtain ⟨d0, d1, d2⟩ := onc_at (zs.take n) (j / 3) z hz2
    rcases (show j = j / 3 * 3 ∨ j = j / 3 * 3 + 1 ∨ j = j / 3 * 3 + 2 by omega) with e | e | e
    · rw [e, d0]; exact c0
    · rw [e, d1, ← Nat.add_assoc]; exact c1
    · rw [e, d2, ← Nat.add_assoc]; exact c2

theorem OnR.of_sl {w : World} {B : Nat} {a : Option Addr} {m c : Nat} {l : List On} (h : Sl w B 3 (.slice a m c) m (onc l)) (hm : m ≤ 40) (hr : ∀ z ∈ l, (0 ≤ z.n ∧ z.n ≤ 255) ∧ -9223372036854775808 ≤ z.t ∧ z.t ≤ 9223372036854775807) : OnR w a m l := by
  have hl : l.length = m := by have := h.1; rw [onc_len] at this; omega
  refine ⟨by omega, by unfold maxLen; omega, fun h0 => ?_, hr⟩
  rcases h.2 with ⟨e, e0⟩ | ⟨g, off, cap, e, _, hg, _, _, _, hcell⟩
  · omega
  · cases e
    refine ⟨g, off, rfl, hg, fun i z hz => ?_⟩
    have hi : i < m := by have := (List.getElem?_eq_some_iff.1 hz).1; omega
    obtain ⟨d0, d1, d2⟩ := onc_at l i z hz
    exact ⟨(hcell (i * 3) (by omega)).trans d0, by rw [Nat.add_assoc]; exact (hcell (i * 3 + 1) (by omega)).trans d1, by rw [Nat.add_assoc]; exact (hcell (i * 3 + 2) (by omega)).trans d2⟩
/-- What agree answers. -/
def AgR (w : World) (zs : List On) (e : Ending) (w' : World) : Prop := ∃ a' m c', e = .returned (.slice a' m c') ∧ OnR w' a' m ((zs.take 30).map ag) ∧ Below w.heap.size w w'
set_option maxHeartbeats 4000000 in
set_option maxRecDepth 100000 in
theorem agree_any (a : Option Addr) (len cap : Nat) (zs : List On) (w : World) (h : OnC w a len cap zs) :
    Calls Tryd.prog 16 #[.slice a len cap] w (AgR w zs) := by
  obtain ⟨i0, hi, hz0, hz1, hz2⟩ := info_parts zc_one
  have Hz := Lib.hid hz0; have Hs := Lib.hid hz1; have Hb := Lib.hid hz2; have Hi := Lib.hid hi
  clear hz0 hz1 hz2 hi
  obtain ⟨hr, hlc, hcm, hnone⟩ := h
  have hcm63 : cap ≤ 9223372036854775807 := by unfold maxLen at hcm; exact hcm
  obtain ⟨m, hm⟩ : ∃ m, m = min len 30 := ⟨_, rfl⟩
  have hml : m ≤ len := by omega
  have hm30 : m ≤ 30 := by omega
  obtain ⟨W1, hW1⟩ : ∃ W1, W1 = w.alloc (.cells #[] 50) := ⟨_, rfl⟩
  have b1 : Below w.heap.size w W1 := by rw [hW1]; exact (Below.refl _ _).alloc (Nat.le_refl _) _
  have RD := Lib.hid (show Rd W1 3 (.slice a m cap) m (onc (zs.take m)) from (hr.rd hml (by omega)).on b1)
  have S0 : Sl W1 w.heap.size 3 (.slice (some ⟨w.heap.size, 0, none⟩) 0 0) 0 [] := by rw [hW1]; exact Sl.lit w w.heap.size 3 0 #[] _ (Nat.le_refl _) (by decide) rfl
  have HZL := Lib.hid hr.hl
  have HRNG := Lib.hid hr.rng
  have B1 := Lib.hid b1
  have HW1 := Lib.hid hW1
  have z1 := b1.size
  have HMM := Lib.hid hm
  have hmin : (min (len : Int) 30).toNat = m := by omega
  clear hr hW1 b1 hm
  go_enter Tryd.func16, Tryd.ntmps16
  go_wp2_with (at_builtin; rw [← HW1.out]; refine wpList_append_rd _ rfl _ _ 28 rfl w.heap.size 50 i0 (.agg #[.int .u8 0, .int .i64 0, .int .u64 0]) 3 24 Tryd.underlying28 Hi.out Hz.out Hs.out Hb.out rfl (by decide) _ 0 [] rfl S0 (.slice a m cap) m (onc (zs.take m)) rfl RD.out (onc_one _) (by unfold maxLen; omega) (by omega) z1 ?_; intro v5 w5 x5; have x5n := x5.now; rw [Nat.zero_add, List.nil_append] at x5n; obtain ⟨a5, c5, e5⟩ := x5n.slice; have e5' : v5 = .slice a5 m c5 := e5; subst e5'; have b5 : Below w.heap.size w w5 := B1.out.trans (x5.below (Nat.le_refl _) z1); have X5 := Lib.hid x5n; have B5 := Lib.hid b5; clear x5 x5n b5)
  obtain ⟨ZS, hZS⟩ : ∃ ZS, ZS = zs.take m := ⟨_, rfl⟩
  have HZS := Lib.hid hZS
  have hZl : ZS.length = m := by rw [hZS, List.length_take, HZL.out]; omega
  have X6 := Lib.hid (show Sl w5 w.heap.size 3 (.slice a5 m c5) m (onc ((ZS.take 0).map ag ++ ZS.drop 0)) by have := X5.out; rw [← hZS] at this; simpa using this)
  have HZN := Lib.hid hZl
  clear hZS X5 RD S0 HW1 hZl
  go_loopw [4, 14] (fun _ i' wr => ∃ (i : Nat), i' = .int .i64 i ∧ i ≤ m ∧ Sl wr w.heap.size 3 (.slice a5 m c5) m (onc ((ZS.take i).map ag ++ ZS.drop i)) ∧ Below w.heap.size w wr) (fun _ i' _ => m - (intOf i').toNat)
  case atStart => exact ⟨0, rfl, by omega, X6.out, B5.out⟩
  case round =>
    clear X6 B5
    obtain ⟨W0, rfl⟩ : ∃ W0, W0 = wr := ⟨_, rfl⟩
    obtain ⟨i, rfl, hi, hs, hb⟩ := hrel
    have HSL := Lib.hid hs; have HB := Lib.hid hb
    by_cases hlt : i < m
    · have hil : (i : Int) < m := by omega
      have hi0 : (0 : Int) ≤ i := by omega
      obtain ⟨z, hz⟩ : ∃ z, ZS[i]? = some z := ⟨ZS[i]'(by have := HZN.out; omega), List.getElem?_eq_getElem (by have := HZN.out; omega)⟩
      have hzm : z ∈ zs := by
        have := List.mem_of_getElem? hz
        rw [HZS.out] at this
        exact List.mem_of_mem_take this
      obtain ⟨⟨n0, n1⟩, t0, t1⟩ := HRNG.out z hzm
      have hE : ((ZS.take i).map ag ++ ZS.drop i)[i]? = some z := by
        rw [List.getElem?_append_right (by rw [List.length_map, List.length_take]; omega), List.length_map, List.length_take, HZN.out, Nat.min_eq_left (by omega), Nat.sub_self, List.getElem?_drop, Nat.add_zero]
        exact hz
      obtain ⟨g, off, rfl, hbg, hgw⟩ : ∃ g off, a5 = some ⟨g, off, none⟩ ∧ w.heap.size ≤ g ∧ g < W0.heap.size := by
        rcases hs.2 with ⟨h0, _⟩ | ⟨g, off, cap', he, h1, h2, _⟩
        · cases h0; omega
        · cases he; exact ⟨g, off, rfl, h1, h2⟩
      obtain ⟨d0, d1, d2⟩ := onc_at _ i z hE
      have c0 := hs.cells _ _ d0
      have c1 := hs.cells _ _ d1
      have c2 := hs.cells _ _ d2
      rw [Addr.add_lit] at c0 c1 c2
      rw [← Nat.add_assoc] at c1 c2
      have f2 := sl_free14 hs (i * 3 + 2) (by omega)
      rw [← Nat.add_assoc] at f2
      have SET := Lib.hid (fun (u : Int) (hu : u = t1000 z.t * 5 + z.n.tmod 5) => show Sl (W0.setCell ⟨g, off + i * 3 + 2, none⟩ (.int .u64 u)) w.heap.size 3 (.slice (some ⟨g, off, none⟩) m c5) m (onc ((ZS.take (i + 1)).map ag ++ ZS.drop (i + 1))) from by
        have h1 := sl_put14 hs (.int .u64 u) (show i * 3 + 2 < m * 3 by omega)
        rw [onc_setV _ i z u hE] at h1
        rw [Nat.add_assoc]
        have e : ((ZS.take i).map ag ++ ZS.drop i).set i ⟨z.n, z.t, u⟩ = (ZS.take (i + 1)).map ag ++ ZS.drop (i + 1) := by
          have hd : ZS.drop i = z :: ZS.drop (i + 1) := by
            obtain ⟨hlt', hz'⟩ := List.getElem?_eq_some_iff.1 hz
            rw [← hz']
            exact List.drop_eq_getElem_cons hlt'
          rw [hd, List.set_append_right _ _ (by rw [List.length_map, List.length_take]; omega), List.length_map, List.length_take, HZN.out, Nat.min_eq_left (by omega), Nat.sub_self, List.set_cons_zero, List.take_add_one, hz]
          subst hu
          show _ = (ZS.take i ++ [z]).map ag ++ ZS.drop (i + 1)
          rw [List.map_append, List.append_assoc]
          rfl
        rw [e] at h1
        exact h1)
      obtain ⟨zn, hzn⟩ : ∃ zn, zn = z.n := ⟨_, rfl⟩
      obtain ⟨zt, hzt⟩ : ∃ zt, zt = z.t := ⟨_, rfl⟩
      obtain ⟨zv, hzv⟩ : ∃ zv, zv = z.v := ⟨_, rfl⟩
      rw [← hzn] at c0 SET n0 n1
      rw [← hzt] at c1 SET t0 t1
      rw [← hzv] at c2
      obtain ⟨r, hr⟩ : ∃ r, zt.tmod 1000 = r := ⟨_, rfl⟩
      have hr0 : -1000 < r ∧ r < 1000 := by
        rw [← hr]
        constructor
        · have := Int.lt_tmod_of_pos zt (b := 1000) (by decide); omega
        · exact Int.tmod_lt_of_pos _ (by decide)
      have hwr : IntKind.i64.wrap (r + 1000) = r + 1000 := IntWalk.i64_in _ (by omega)
      obtain ⟨T, hT⟩ : ∃ T, (r + 1000).tmod 1000 = T := ⟨_, rfl⟩
      have hT0 : 0 ≤ T ∧ T < 1000 := by
        rw [← hT]
        exact ⟨Int.tmod_nonneg _ (by omega), Int.tmod_lt_of_pos _ (by decide)⟩
      obtain ⟨N5, hN5⟩ : ∃ N5, zn.tmod 5 = N5 := ⟨_, rfl⟩
      have hN50 : 0 ≤ N5 ∧ N5 < 5 := by
        rw [← hN5]
        exact ⟨Int.tmod_nonneg _ n0, Int.tmod_lt_of_pos _ (by decide)⟩
      have HT1 := Lib.hid (show t1000 zt * 5 + zn.tmod 5 = T * 5 + N5 by unfold t1000; rw [hr, hT, hN5])
      clear hz hzm hE d0 d1 d2 hs hb hzn hzt hzv
      go_upto_region 5 with fail
      go_region_held3 (fun W => W.cell? ⟨g, off + i * 3, none⟩ = some (.int .u8 zn) ∧ W.cell? ⟨g, off + i * 3 + 1, none⟩ = some (.int .i64 zt))
        (first | exact ⟨c0, c1⟩ | exact ⟨(cell_setCell_other W0 _ _ _ _ (.inr (by simp only; omega))).trans c0, (cell_setCell_other W0 _ _ _ _ (.inr (by simp only; omega))).trans c1⟩ | assumption | fail)
        (first | fail)
      have SU := Lib.hid (SET.out (T * 5 + N5) HT1.out.symm)
      have BS := Lib.hid (HB.out.setCell (p := ⟨g, off + i * 3 + 2, none⟩) hbg (.int .u64 (T * 5 + N5)))
      clear SET
      go_wp2
      exact ⟨⟨i + 1, by simp, by omega, SU.out, BS.out.drew⟩, by simp [intOf]; omega⟩
    · have HFN := Lib.hid (show (ZS.take i).map ag ++ ZS.drop i = (zs.take 30).map ag by
        have hi' : i = m := by omega
        have h1 := HZN.out
        rw [List.take_of_length_le (by omega), List.drop_eq_nil_of_le (by omega), List.append_nil, HZS.out]
        have hm' := HMM.out
        have hl' := HZL.out
        by_cases h30 : len ≤ 30
        · rw [List.take_of_length_le (by omega), List.take_of_length_le (by omega)]
        · rw [show m = 30 by omega])
      have OR := Lib.hid (show OnR W0 a5 m ((zs.take 30).map ag) by
        have h1 := HSL.out
        rw [HFN.out] at h1
        refine OnR.of_sl h1 (by omega) fun z hz => ?_
        obtain ⟨y, hy, rfl⟩ := List.mem_map.1 hz
        exact HRNG.out y (List.mem_of_mem_take hy))
      have hil : ¬ (i : Int) < m := by omega
      clear hs hb hlt
      go_wp2
      go_ret
      exact ⟨a5, m, c5, rfl, OR.out, HB.out⟩
end Go.Proofs.YtcmalckaekbomaaDoor
