/- Layer 14: do lists rise; walked. Layer 14: Good, the program's, walked. Layer 14: the document's Good, walked. -/
import Derived.Test.YtabeaehiidnbbaaDoorMWG
import Derived.Deep.RegionHeld3
namespace Go.Proofs.YtabeaehiidnbbaaDoor
open Go.RowKit Go.Lib Hp
set_option linter.unusedVariables false

/-- A truth is answered: whether so. -/
def Ans (P : Prop) (e : Ending) : Prop := ∃ b, e = .returned (.bool b) ∧ (b = true ↔ P)
theorem Ans.no {P : Prop} (h : ¬ P) : Ans P (.returned (.bool false)) := ⟨false, rfl, fun h => (by cases h), fun k => absurd k h⟩
theorem Ans.yes {P : Prop} (h : P) : Ans P (.returned (.bool true)) := ⟨true, rfl, fun _ => h, fun _ => rfl⟩
/-- Each ahead of the next one. -/
def UpI (l : List Sp) : Prop := ∀ i x y, l[i]? = some x → l[i + 1]? = some y → x.t < y.t
def RisI (l : List Rw) : Prop := ∀ i x y, l[i]? = some x → l[i + 1]? = some y → cmpS x.ls y.ls < 0
theorem cmpI_lt {a b : Int} : cmpI a b < 0 ↔ a < b := by
  unfold cmpI
  by_cases h : a < b
  · simp [h]
  · by_cases h2 : b < a <;> simp [h, h2]
theorem risI_of {l : List Rq} (h : ∀ j x y, l[j]? = some x → l[j + 1]? = some y → cmpS x.r.ls y.r.ls < 0) : RisI (rws l) := by
  intro i x y hx hy
  unfold rws at hx hy
  rw [List.getElem?_map] at hx hy
  cases h1 : l[i]? with
  | none => rw [h1] at hx; cases hx
  | some q =>
    cases h2 : l[i + 1]? with
    | none => rw [h2] at hy; cases hy
    | some r =>
      rw [h1] at hx
      rw [h2] at hy
      obtain rfl := Option.some.inj hx
      obtain rfl := Option.some.inj hy
      exact h i q r h1 h2
theorem risI_at {l : List Rq} {k : Nat} {x y : Rq} (h : RisI (rws l)) (hx : l[k]? = some x) (hy : l[k + 1]? = some y) : cmpS x.r.ls y.r.ls < 0 :=
  h k x.r y.r (by unfold rws; rw [List.getElem?_map, hx]; rfl) (by unfold rws; rw [List.getElem?_map, hy]; rfl)
theorem upI_of_up {l : List Sp} (h : Up l) : UpI l := by
  intro i x y hx hy
  obtain ⟨h1, rfl⟩ := List.getElem?_eq_some_iff.1 hx
  obtain ⟨h2, rfl⟩ := List.getElem?_eq_some_iff.1 hy
  exact List.pairwise_iff_getElem.1 h i (i + 1) h1 h2 (Nat.lt_succ_self i)
theorem risI_of_up {l : List Rw} (h : UpT l) : RisI l := by
  intro i x y hx hy
  obtain ⟨h1, rfl⟩ := List.getElem?_eq_some_iff.1 hx
  obtain ⟨h2, rfl⟩ := List.getElem?_eq_some_iff.1 hy
  exact List.pairwise_iff_getElem.1 h.1 i (i + 1) h1 h2 (Nat.lt_succ_self i)
/-- A table. -/
def GoodI (l : List Rw) : Prop := (∀ r ∈ l, UpI r.ss) ∧ RisI l
theorem goodI_of_up {l : List Rw} (h : UpT l) : GoodI l := ⟨fun r hr => upI_of_up (h.2 r hr), risI_of_up h⟩

set_option maxHeartbeats 4000000 in
set_option maxRecDepth 100000 in
theorem rises_S (v : Value) (l : List Sp) (w : World) (h : Rd w 2 v l.length (spc l)) (hm : l.length ≤ 1000000) :
    Calls Tryd.prog 24 #[v, .func (.func 18) #[] #[]] w fun e w' => Ans (UpI l) e ∧ Below w.heap.size w w' := by
  obtain ⟨_, a, cap, g, off, rfl, hg, hc⟩ := h
  obtain ⟨n, hn⟩ : ∃ n, n = l.length := ⟨_, rfl⟩
  have HN := Lib.hid hn
  have HC := Lib.hid hc
  have HG := Lib.hid hg
  rw [← hn] at hm HG
  rw [← hn]
  clear hn hc hg
  go_enter Tryd.func24, Tryd.ntmps24
  go_wp2_with fail
  go_loopw [5] (fun k' wr => ∃ (k : Nat), k' = .int .i64 ((k : Int) + 1) ∧ (k = 0 ∨ k + 1 ≤ n) ∧ Hid (∀ j x y, j < k → l[j]? = some x → l[j + 1]? = some y → cmpI x.t y.t < 0) ∧ Below w.heap.size w wr) (fun k' _ => n - (RowKit.intOf k').toNat)
  case atStart => exact ⟨0, rfl, .inl rfl, Lib.hid (fun j x y hj => absurd hj (Nat.not_lt_zero _)), Below.refl _ _⟩
  case round =>
    obtain ⟨W0, rfl⟩ : ∃ W0, W0 = wr := ⟨_, rfl⟩
    obtain ⟨k, rfl, hk, hof, hb⟩ := hrel
    have HB := Lib.hid hb
    have HOF := Lib.hid hof.out
    clear hof
    by_cases hlt : k + 1 < n
    · obtain ⟨rfl, hgl⟩ := HG.out (by omega)
      obtain ⟨x, hx⟩ : ∃ x, l[k]? = some x := ⟨l[k]'(by have := HN.out; omega), List.getElem?_eq_getElem (by have := HN.out; omega)⟩
      obtain ⟨y, hy⟩ : ∃ y, l[k + 1]? = some y := ⟨l[k + 1]'(by have := HN.out; omega), List.getElem?_eq_getElem (by have := HN.out; omega)⟩
      obtain ⟨v0, v1⟩ := spc_at l k x hx
      obtain ⟨u0, u1⟩ := spc_at l (k + 1) y hy
      have hx' := hx
      have hy' := hy
      have CB := Lib.hid (fun W (bb : Below W0.heap.size W0 W) => bytime_any x y W)
      obtain ⟨c, hcc⟩ : ∃ c, c = cmpI x.t y.t := ⟨_, rfl⟩
      rw [← hcc] at CB
      have HCC := Lib.hid hcc
      have hz := hb.size
      have FX := Lib.hid (fun W (bb : Below W0.heap.size W0 W) => show W.cell? ⟨g, off + k * 2, none⟩ = some (.int .i64 x.t) ∧ W.cell? ⟨g, off + k * 2 + 1, none⟩ = some (.int .u64 x.v) ∧ W.cell? ⟨g, off + (k + 1) * 2, none⟩ = some (.int .i64 y.t) ∧ W.cell? ⟨g, off + (k + 1) * 2 + 1, none⟩ = some (.int .u64 y.v) from by
        have bW : Below w.heap.size w W := hb.trans (bb.mono hz)
        have := HN.out
        exact ⟨(bW.cell (p := ⟨g, off + k * 2, none⟩) hgl).trans ((HC.out (k * 2) (by omega)).trans v0), (bW.cell (p := ⟨g, off + (k * 2 + 1), none⟩) hgl).trans ((HC.out (k * 2 + 1) (by omega)).trans v1), (bW.cell (p := ⟨g, off + (k + 1) * 2, none⟩) hgl).trans ((HC.out ((k + 1) * 2) (by omega)).trans u0), (bW.cell (p := ⟨g, off + ((k + 1) * 2 + 1), none⟩) hgl).trans ((HC.out ((k + 1) * 2 + 1) (by omega)).trans u1)⟩)
      have HNO := Lib.hid (show 0 ≤ c → ¬ UpI l from fun h0 hu => by
        have := hu k x y hx' hy'; rw [← cmpI_lt, ← HCC.out] at this; omega)
      have HOF2 := Lib.hid (show c < 0 → ∀ j x y, j < k + 1 → l[j]? = some x → l[j + 1]? = some y → cmpI x.t y.t < 0 from fun h0 j x2 y2 hj h1 h2 => by
        by_cases hjk : j = k
        · subst hjk
          rw [hx'] at h1
          rw [hy'] at h2
          obtain rfl := Option.some.inj h1
          obtain rfl := Option.some.inj h2
          rw [← HCC.out]; exact h0
        · exact HOF.out j x2 y2 (by omega) h1 h2)
      obtain ⟨xt, hxt⟩ : ∃ z, z = x.t := ⟨_, rfl⟩
      obtain ⟨xv, hxv⟩ : ∃ z, z = x.v := ⟨_, rfl⟩
      obtain ⟨yt, hyt⟩ : ∃ z, z = y.t := ⟨_, rfl⟩
      obtain ⟨yv, hyv⟩ : ∃ z, z = y.v := ⟨_, rfl⟩
      rw [← hxt, ← hxv, ← hyt, ← hyv] at FX CB
      have i1 : (k : Int) + 1 < n := by omega
      have i2 : (0 : Int) ≤ (k : Int) + 1 := by omega
      have i3 : (k : Int) < n := by omega
      have i4 : (0 : Int) ≤ k := by omega
      have i5 : ((k : Int) + 1).toNat = k + 1 := by omega
      have wk : IntKind.i64.wrap ((k : Int) + 1 - 1) = (k : Int) := by rw [show (k : Int) + 1 - 1 = k by omega]; exact IntWalk.i64_in _ (by omega)
      have wk2 : IntKind.i64.wrap (k : Int) = (k : Int) := IntWalk.i64_in _ (by omega)
      have B0 := Below.refl W0.heap.size W0
      obtain ⟨c0, c1, c2, c3⟩ := FX.out _ B0
      clear hx hy hx' hy' v0 v1 u0 u1 hcc hb hz hxt hxv hyt hyv
      go_upto_region 4 with fail
      have BQ := B0.drew
      go_region_held3 (fun W => W.cell? ⟨g, off + k * 2, none⟩ = some (.int .i64 xt) ∧ W.cell? ⟨g, off + k * 2 + 1, none⟩ = some (.int .u64 xv) ∧ W.cell? ⟨g, off + (k + 1) * 2, none⟩ = some (.int .i64 yt) ∧ W.cell? ⟨g, off + (k + 1) * 2 + 1, none⟩ = some (.int .u64 yv))
        (first | (refine FX.out _ ?_; assumption) | assumption | fail)
        (first | (go_at_call 18; ((with_reducible refine (CB.out _ ?_).mono ?_)); exact BQ; rintro e w2 ⟨rfl, b2⟩; have B2 : Below W0.heap.size W0 w2 := BQ.trans (b2.mono BQ.size)) | fail)
      have HB2 := Lib.hid (HB.out.trans (B2.mono HB.out.size))
      clear B2 b2 BQ B0 CB FX c0 c1 c2 c3
      by_cases h0 : 0 ≤ c
      · have FIN := Lib.hid (HNO.out h0)
        clear HNO HOF2
        go_wp2
        go_ret
        exact ⟨Ans.no FIN.out, HB2.out⟩
      · have h1 := Lib.hid (HOF2.out (by omega))
        clear HNO HOF2
        go_wp2
        exact ⟨⟨k + 1, by simp, .inr (by omega), h1, HB2.out⟩, by simp [RowKit.intOf]; omega⟩
    · have hil : ¬ (k : Int) + 1 < n := by omega
      have FIN := Lib.hid (show UpI l from by
        have hnn := HN.out
        exact fun j x y hx hy => cmpI_lt.1 (HOF.out j x y (by have := (List.getElem?_eq_some_iff.1 hy).1; omega) hx hy))
      clear hb
      go_wp2
      go_ret
      exact ⟨Ans.yes FIN.out, HB.out⟩

set_option maxHeartbeats 4000000 in
set_option maxRecDepth 100000 in
theorem rises_R (v : Value) (l : List Rq) (w : World) (h : RdQ w v l) (hm : l.length ≤ 1000000) :
    Calls Tryd.prog 25 #[v, .func (.func 26) #[] #[]] w fun e w' => Ans (RisI (rws l)) e ∧ Below w.heap.size w w' := by
  obtain ⟨⟨_, a, cap, g, off, rfl, hg, hc⟩, hok⟩ := h
  have HOK := Lib.hid hok
  obtain ⟨n, hn⟩ : ∃ n, n = l.length := ⟨_, rfl⟩
  have HN := Lib.hid hn
  have HC := Lib.hid hc
  have HG := Lib.hid hg
  rw [← hn] at hm HG
  rw [← hn]
  clear hn hc hg hok
  go_enter Tryd.func25, Tryd.ntmps25
  go_wp2_with fail
  go_loopw [5] (fun k' wr => ∃ (k : Nat), k' = .int .i64 ((k : Int) + 1) ∧ (k = 0 ∨ k + 1 ≤ n) ∧ Hid (∀ j x y, j < k → l[j]? = some x → l[j + 1]? = some y → cmpS x.r.ls y.r.ls < 0) ∧ Below w.heap.size w wr) (fun k' _ => n - (RowKit.intOf k').toNat)
  case atStart => exact ⟨0, rfl, .inl rfl, Lib.hid (fun j x y hj => absurd hj (Nat.not_lt_zero _)), Below.refl _ _⟩
  case round =>
    obtain ⟨W0, rfl⟩ : ∃ W0, W0 = wr := ⟨_, rfl⟩
    obtain ⟨k, rfl, hk, hof, hb⟩ := hrel
    have HB := Lib.hid hb
    have HOF := Lib.hid hof.out
    clear hof
    by_cases hlt : k + 1 < n
    · obtain ⟨rfl, hgl⟩ := HG.out (by omega)
      obtain ⟨x, hx⟩ : ∃ x, l[k]? = some x := ⟨l[k]'(by have := HN.out; omega), List.getElem?_eq_getElem (by have := HN.out; omega)⟩
      obtain ⟨y, hy⟩ : ∃ y, l[k + 1]? = some y := ⟨l[k + 1]'(by have := HN.out; omega), List.getElem?_eq_getElem (by have := HN.out; omega)⟩
      obtain ⟨v0, v1⟩ := rqc_at l k x hx
      obtain ⟨u0, u1⟩ := rqc_at l (k + 1) y hy
      have hx' := hx
      have hy' := hy
      have CB := Lib.hid (fun W (bb : Below W0.heap.size W0 W) => bylabels_any x y W (((HOK.out _ (List.mem_of_getElem? hx)).on hb).on bb) (((HOK.out _ (List.mem_of_getElem? hy)).on hb).on bb))
      obtain ⟨c, hcc⟩ : ∃ c, c = cmpS x.r.ls y.r.ls := ⟨_, rfl⟩
      rw [← hcc] at CB
      have HCC := Lib.hid hcc
      have hz := hb.size
      have FX := Lib.hid (fun W (bb : Below W0.heap.size W0 W) => show W.cell? ⟨g, off + k * 2, none⟩ = some x.a ∧ W.cell? ⟨g, off + k * 2 + 1, none⟩ = some x.b ∧ W.cell? ⟨g, off + (k + 1) * 2, none⟩ = some y.a ∧ W.cell? ⟨g, off + (k + 1) * 2 + 1, none⟩ = some y.b from by
        have bW : Below w.heap.size w W := hb.trans (bb.mono hz)
        have := HN.out
        exact ⟨(bW.cell (p := ⟨g, off + k * 2, none⟩) hgl).trans ((HC.out (k * 2) (by omega)).trans v0), (bW.cell (p := ⟨g, off + (k * 2 + 1), none⟩) hgl).trans ((HC.out (k * 2 + 1) (by omega)).trans v1), (bW.cell (p := ⟨g, off + (k + 1) * 2, none⟩) hgl).trans ((HC.out ((k + 1) * 2) (by omega)).trans u0), (bW.cell (p := ⟨g, off + ((k + 1) * 2 + 1), none⟩) hgl).trans ((HC.out ((k + 1) * 2 + 1) (by omega)).trans u1)⟩)
      have HNO := Lib.hid (show 0 ≤ c → ¬ RisI (rws l) from fun h0 hu => by
        have := risI_at hu hx' hy'; rw [← HCC.out] at this; omega)
      have HOF2 := Lib.hid (show c < 0 → ∀ j x y, j < k + 1 → l[j]? = some x → l[j + 1]? = some y → cmpS x.r.ls y.r.ls < 0 from fun h0 j x2 y2 hj h1 h2 => by
        by_cases hjk : j = k
        · subst hjk
          rw [hx'] at h1
          rw [hy'] at h2
          obtain rfl := Option.some.inj h1
          obtain rfl := Option.some.inj h2
          rw [← HCC.out]; exact h0
        · exact HOF.out j x2 y2 (by omega) h1 h2)
      obtain ⟨xt, hxt⟩ : ∃ z, z = x.a := ⟨_, rfl⟩
      obtain ⟨xv, hxv⟩ : ∃ z, z = x.b := ⟨_, rfl⟩
      obtain ⟨yt, hyt⟩ : ∃ z, z = y.a := ⟨_, rfl⟩
      obtain ⟨yv, hyv⟩ : ∃ z, z = y.b := ⟨_, rfl⟩
      rw [← hxt, ← hxv, ← hyt, ← hyv] at FX CB
      have i1 : (k : Int) + 1 < n := by omega
      have i2 : (0 : Int) ≤ (k : Int) + 1 := by omega
      have i3 : (k : Int) < n := by omega
      have i4 : (0 : Int) ≤ k := by omega
      have i5 : ((k : Int) + 1).toNat = k + 1 := by omega
      have wk : IntKind.i64.wrap ((k : Int) + 1 - 1) = (k : Int) := by rw [show (k : Int) + 1 - 1 = k by omega]; exact IntWalk.i64_in _ (by omega)
      have wk2 : IntKind.i64.wrap (k : Int) = (k : Int) := IntWalk.i64_in _ (by omega)
      have B0 := Below.refl W0.heap.size W0
      obtain ⟨c0, c1, c2, c3⟩ := FX.out _ B0
      clear hx hy hx' hy' v0 v1 u0 u1 hcc hb hz hxt hxv hyt hyv
      go_upto_region 4 with fail
      have BQ := B0.drew
      go_region_held3 (fun W => W.cell? ⟨g, off + k * 2, none⟩ = some xt ∧ W.cell? ⟨g, off + k * 2 + 1, none⟩ = some xv ∧ W.cell? ⟨g, off + (k + 1) * 2, none⟩ = some yt ∧ W.cell? ⟨g, off + (k + 1) * 2 + 1, none⟩ = some yv)
        (first | (refine FX.out _ ?_; assumption) | assumption | fail)
        (first | (go_at_call 26; ((with_reducible refine (CB.out _ ?_).mono ?_)); exact BQ; rintro e w2 ⟨rfl, b2⟩; have B2 : Below W0.heap.size W0 w2 := BQ.trans (b2.mono BQ.size)) | fail)
      have HB2 := Lib.hid (HB.out.trans (B2.mono HB.out.size))
      clear B2 b2 BQ B0 CB FX c0 c1 c2 c3
      by_cases h0 : 0 ≤ c
      · have FIN := Lib.hid (HNO.out h0)
        clear HNO HOF2
        go_wp2
        go_ret
        exact ⟨Ans.no FIN.out, HB2.out⟩
      · have h1 := Lib.hid (HOF2.out (by omega))
        clear HNO HOF2
        go_wp2
        exact ⟨⟨k + 1, by simp, .inr (by omega), h1, HB2.out⟩, by simp [RowKit.intOf]; omega⟩
    · have hil : ¬ (k : Int) + 1 < n := by omega
      have FIN := Lib.hid (show RisI (rws l) from by
        have hnn := HN.out
        exact risI_of fun j x y hx hy => HOF.out j x y (by have := (List.getElem?_eq_some_iff.1 hy).1; omega) hx hy)
      clear hb
      go_wp2
      go_ret
      exact ⟨Ans.yes FIN.out, HB.out⟩
end Go.Proofs.YtabeaehiidnbbaaDoor

namespace Go.Proofs.YtabeaehiidnbbaaDoor
open Go.RowKit Go.Lib Hp
set_option linter.unusedVariables false

set_option maxHeartbeats 4000000 in
set_option maxRecDepth 100000 in
theorem good_any (v : Value) (rows : List Rw) (K : Nat) (w : World) (h : TabR w K v rows) (hm : rows.length ≤ 100000) (hK : K ≤ 100000) :
    Calls Tryd.prog 10 #[v] w fun e w' => Ans (GoodI rows) e ∧ Below w.heap.size w w' := by
  obtain ⟨-, qs, hqs, hrd, hok⟩ := h
  have hl : rows.length = qs.length := by rw [← hqs, List.length_map]
  rw [hl] at hrd hm
  have RR := Lib.hid (fun W (bb : Below w.heap.size w W) => rises_R v qs W ⟨hrd.on bb, fun q hq => ((hok q hq).mono hK).on bb⟩ (by omega))
  obtain ⟨_, a, cap, g, off, rfl, hg, hc⟩ := hrd
  obtain ⟨n, hn⟩ : ∃ n, n = qs.length := ⟨_, rfl⟩
  have HN := Lib.hid hn
  have HC := Lib.hid hc
  have HG := Lib.hid hg
  have HOK := Lib.hid hok
  have HRW := Lib.hid (show rws qs = rows from hqs)
  rw [← hn] at hm HG RR
  rw [← hn]
  clear hn hc hg hok hqs hl
  go_enter Tryd.func10, Tryd.ntmps10
  go_wp2_with fail
  go_loopw [4, 7] (fun _ i' wr => ∃ (i : Nat), i' = .int .i64 i ∧ i ≤ n ∧ Hid (∀ j q, j < i → qs[j]? = some q → UpI q.r.ss) ∧ Below w.heap.size w wr) (fun _ i' _ => n - (RowKit.intOf i').toNat)
  case atStart => exact ⟨0, rfl, by omega, Lib.hid (fun j q hj => absurd hj (Nat.not_lt_zero _)), Below.refl _ _⟩
  case round =>
    obtain ⟨W0, rfl⟩ : ∃ W0, W0 = wr := ⟨_, rfl⟩
    obtain ⟨i, rfl, hi, hof, hb⟩ := hrel
    have HB := Lib.hid hb
    have HOF := Lib.hid hof.out
    clear hof
    by_cases hlt : i < n
    · obtain ⟨rfl, hgl⟩ := HG.out (by omega)
      obtain ⟨⟨qa, qb, r⟩, hq⟩ : ∃ q, qs[i]? = some q := ⟨qs[i]'(by have := HN.out; omega), List.getElem?_eq_getElem (by have := HN.out; omega)⟩
      obtain ⟨v0, v1⟩ := rqc_at qs i _ hq
      have ok := HOK.out _ (List.mem_of_getElem? hq)
      have q0 := (hb.cell (p := ⟨g, off + i * 2, none⟩) hgl).trans ((HC.out (i * 2) (by have := HN.out; omega)).trans v0)
      have q1 := (hb.cell (p := ⟨g, off + (i * 2 + 1), none⟩) hgl).trans ((HC.out (i * 2 + 1) (by have := HN.out; omega)).trans v1)
      rw [← Nat.add_assoc] at q1
      simp only at q0 q1
      obtain ⟨aa, ca, ea⟩ := ok.l.slice
      obtain ⟨ab, cb', eb⟩ := ok.s.slice
      simp only at ea eb
      subst ea eb
      obtain ⟨V1, hV1⟩ : ∃ V1, V1 = W0.alloc (.cells #[.slice aa r.ls.length ca, .slice ab r.ss.length cb'] 57) := ⟨_, rfl⟩
      have b1 : Below W0.heap.size W0 V1 := by rw [hV1]; exact (Below.refl _ _).alloc (Nat.le_refl _) _
      have hx1 : V1.heap[W0.heap.size]? = some (.cells #[.slice aa r.ls.length ca, .slice ab r.ss.length cb'] 57) := by rw [hV1]; exact heap_alloc_new W0 _
      have hc1 := Lib.cell_of_heap hx1 1
      simp at hc1
      have hss := ok.hs
      simp only at hss
      have RS := Lib.hid (rises_S (.slice ab r.ss.length cb') r.ss V1 ((ok.s.on hb).on b1) (by omega))
      have B1 := Lib.hid (hb.trans (b1.mono hb.size))
      obtain ⟨NL, hNL⟩ : ∃ NL, NL = r.ls.length := ⟨_, rfl⟩
      obtain ⟨NS, hNS⟩ : ∃ NS, NS = r.ss.length := ⟨_, rfl⟩
      rw [← hNL] at q0 hV1
      rw [← hNS] at q1 hV1 hc1 RS
      have hil : (i : Int) < n := by omega
      have HNO := Lib.hid (show ¬ UpI r.ss → ¬ GoodI rows from fun h hg => h (hg.1 r (by rw [← HRW.out]; exact List.mem_map.2 ⟨_, List.mem_of_getElem? hq, rfl⟩)))
      have HOF2 := Lib.hid (show UpI r.ss → ∀ j q, j < i + 1 → qs[j]? = some q → UpI q.r.ss from fun h j q hj hjq => by
        by_cases hji : j = i
        · subst hji
          rw [hq] at hjq
          obtain rfl := Option.some.inj hjq
          exact h
        · exact HOF.out j q (by omega) hjq)
      clear hq v0 v1 ok hb hx1 b1 hss hNL hNS
      go_upto_region 4 with fail
      rw [← hV1]
      clear hV1 q0 q1
      go_wp2_with fail
      refine RS.out.mono ?_
      rintro e w2 ⟨⟨b, rfl, hbi⟩, b2⟩
      have HBI := Lib.hid hbi
      have B2 := Lib.hid (B1.out.trans (b2.mono B1.out.size))
      clear hbi b2 RS
      cases b
      case' false =>
        have FIN := Lib.hid (HNO.out (fun h => by have := HBI.out.2 h; cases this))
        clear HNO HOF2 HBI
        go_wp2
        go_ret
        exact ⟨Ans.no FIN.out, B2.out⟩
      case' true =>
        have h1 := Lib.hid (HOF2.out (HBI.out.1 rfl))
        clear HNO HOF2 HBI
        go_wp2
        exact ⟨⟨i + 1, by simp, by omega, h1, B2.out⟩, by simp [RowKit.intOf]; omega⟩
    · have hil : ¬ (i : Int) < n := by omega
      have RC := Lib.hid (RR.out W0 hb)
      have HUP := Lib.hid (show ∀ r ∈ rows, UpI r.ss from fun r hr => by
        rw [← HRW.out] at hr
        obtain ⟨q, hq, rfl⟩ := List.mem_map.1 hr
        obtain ⟨j, hj, rfl⟩ := List.mem_iff_getElem.1 hq
        exact HOF.out j _ (by have := HN.out; omega) (List.getElem?_eq_getElem hj))
      clear hb RR
      go_wp2_with fail
      refine RC.out.mono ?_
      rintro e w2 ⟨⟨b, rfl, hbi⟩, b2⟩
      have FIN := Lib.hid (show Ans (GoodI rows) (.returned (.bool b)) from ⟨b, rfl, hbi.trans (by rw [HRW.out]; exact ⟨fun h => ⟨HUP.out, h⟩, fun h => h.2⟩)⟩)
      clear hbi
      go_wp2
      go_ret
      exact ⟨FIN.out, HB.out.trans (b2.mono HB.out.size)⟩
end Go.Proofs.YtabeaehiidnbbaaDoor

namespace Go.Proofs.YtabeaehiidnbbaaDoor
open Go.RowKit Go.Lib Hp
set_option linter.unusedVariables false

theorem upI_no {l : List Sp} {k : Nat} {x y : Sp} (hy : l[k]? = some y) (hx : l[k + 1]? = some x) (h : x.t ≤ y.t) : ¬ UpI l := fun hu => by
  have := hu k y x hy hx
  omega

set_option maxHeartbeats 8000000 in
set_option maxRecDepth 100000 in
theorem rgood_any (v : Value) (rows : List Rw) (K : Nat) (w : World) (h : TabR w K v rows) (hm : rows.length ≤ 100000) (hK : K ≤ 100000) :
    Calls Tryd.prog 12 #[v] w fun e w' => Ans (GoodI rows) e ∧ Below w.heap.size w w' := by
  obtain ⟨-, qs, hqs, hrd, hok⟩ := h
  have hl : rows.length = qs.length := by rw [← hqs, List.length_map]
  rw [hl] at hrd hm
  obtain ⟨_, a, cap, g, off, rfl, hg, hc⟩ := hrd
  obtain ⟨n, hn⟩ : ∃ n, n = qs.length := ⟨_, rfl⟩
  have HN := Lib.hid hn
  have HC := Lib.hid hc
  have HG := Lib.hid hg
  have HOK := Lib.hid hok
  have HRW := Lib.hid (show rws qs = rows from hqs)
  rw [← hn] at hm HG
  rw [← hn]
  clear hn hc hg hok hqs hl
  go_enter Tryd.func12, Tryd.ntmps12
  go_wp2_with fail
  go_loopw [3, 4, 5, 8, 14, 15, 16] (fun _ _ _ i' _ _ _ wr => ∃ (i : Nat), i' = .int .i64 i ∧ i ≤ n ∧ Hid (∀ j q, j < i → qs[j]? = some q → UpI q.r.ss) ∧ Hid (∀ j x y, j + 1 < i → qs[j]? = some x → qs[j + 1]? = some y → cmpS x.r.ls y.r.ls < 0) ∧ Below w.heap.size w wr) (fun _ _ _ i' _ _ _ _ => n - (RowKit.intOf i').toNat)
  case atStart => exact ⟨0, rfl, by omega, Lib.hid (fun j q hj => absurd hj (Nat.not_lt_zero _)), Lib.hid (fun j x y hj => absurd hj (Nat.not_lt_zero _)), Below.refl _ _⟩
  case round =>
    obtain ⟨W0, rfl⟩ : ∃ W0, W0 = wr := ⟨_, rfl⟩
    obtain ⟨i, rfl, hi, hof, hris, hb⟩ := hrel
    have hbz := hb.size
    have HB := Lib.hid hb
    have HOF := Lib.hid hof.out
    have HRI := Lib.hid hris.out
    clear hof hris
    by_cases hlt : i < n
    · obtain ⟨rfl, hgl⟩ := HG.out (by omega)
      obtain ⟨⟨qa, qb, rl, rs⟩, hx⟩ : ∃ q, qs[i]? = some q := ⟨qs[i]'(by have := HN.out; omega), List.getElem?_eq_getElem (by have := HN.out; omega)⟩
      obtain ⟨v0, v1⟩ := rqc_at qs i _ hx
      have ok := HOK.out _ (List.mem_of_getElem? hx)
      have q0 := (hb.cell (p := ⟨g, off + i * 2, none⟩) hgl).trans ((HC.out (i * 2) (by have := HN.out; omega)).trans v0)
      have q1 := (hb.cell (p := ⟨g, off + (i * 2 + 1), none⟩) hgl).trans ((HC.out (i * 2 + 1) (by have := HN.out; omega)).trans v1)
      rw [← Nat.add_assoc] at q1
      obtain ⟨kl, ks, kn, kk⟩ := ok
      simp only at kl ks kn kk q0 q1
      obtain ⟨aa, ca, ea⟩ := kl.slice
      obtain ⟨ab, cb', eb⟩ := ks.slice
      subst ea eb
      obtain ⟨NL, hNL⟩ : ∃ NL, NL = rl.length := ⟨_, rfl⟩
      obtain ⟨NS, hNS⟩ : ∃ NS, NS = rs.length := ⟨_, rfl⟩
      rw [← hNL] at q0 kn
      rw [← hNS] at q1 kk
      have HNL := Lib.hid hNL; have HNS := Lib.hid hNS; have HX := Lib.hid hx
      have hil : (i : Int) < n := by omega
      obtain ⟨V1, hV1⟩ : ∃ V1, V1 = W0.alloc (.cells #[.slice aa NL ca, .slice ab NS cb'] 41) := ⟨_, rfl⟩
      have b1 : Below W0.heap.size W0 V1 := by rw [hV1]; exact (Below.refl _ _).alloc (Nat.le_refl _) _
      have y1 : V1.heap.size = W0.heap.size + 1 := by rw [hV1]; simp
      have hx1 : V1.heap[W0.heap.size]? = some (.cells #[.slice aa NL ca, .slice ab NS cb'] 41) := by rw [hV1]; exact heap_alloc_new W0 _
      have KL := Lib.hid (show Rd V1 2 (.slice aa NL ca) rl.length (prc rl) by have := (kl.on hb).on b1; rw [← hNL] at this ⊢; exact this)
      have KS := Lib.hid (show Rd V1 2 (.slice ab NS cb') NS (spc rs) by have := (ks.on hb).on b1; rw [← hNS] at this; exact this)
      have HX1 := Lib.hid hx1; have B1 := Lib.hid (hb.trans (b1.mono hbz)); have Y1 := Lib.hid y1
      have HNO := Lib.hid (show ¬ UpI rs → ¬ GoodI rows from fun h hg => h (hg.1 ⟨rl, rs⟩ (by rw [← HRW.out]; exact List.mem_map.2 ⟨_, List.mem_of_getElem? hx, rfl⟩)))
      have HOF2 := Lib.hid (show UpI rs → ∀ j q, j < i + 1 → qs[j]? = some q → UpI q.r.ss from fun h j q hj hjq => by
        by_cases hji : j = i
        · subst hji
          rw [hx] at hjq
          obtain rfl := Option.some.inj hjq
          exact h
        · exact HOF.out j q (by omega) hjq)
      have r0 := Lib.cell_of_heap hx1 0
      have r1 := Lib.cell_of_heap hx1 1
      simp at r0 r1
      clear hx v0 v1 kl ks hNL hNS hx1 b1 hb
      go_upto_region 4 with fail
      rw [← hV1]
      clear hV1 q0 q1
      go_wp2_with fail
      go_loopw [5, 16] (fun _ k' wx => ∃ (k : Nat), k' = .int .i64 k ∧ k ≤ NS ∧ Hid (∀ j x y, j + 1 < k → rs[j]? = some x → rs[j + 1]? = some y → x.t < y.t) ∧ Below V1.heap.size V1 wx) (fun _ k' _ => NS - (RowKit.intOf k').toNat)
      case atStart => exact ⟨0, rfl, by omega, Lib.hid (fun j x y hj => absurd hj (Nat.not_lt_zero _)), Below.refl _ _⟩
      case round =>
        obtain ⟨V2, rfl⟩ : ∃ V2, V2 = wr := ⟨_, rfl⟩
        obtain ⟨k, rfl, hk, hup, hyb⟩ := hrel
        have ybz := hyb.size
        have HYB := Lib.hid hyb
        have HU := Lib.hid hup.out
        have e0 := Lib.cell_of_heap ((hyb.block W0.heap.size (by have := Y1.out; omega)).trans HX1.out) 0
        have e1 := Lib.cell_of_heap ((hyb.block W0.heap.size (by have := Y1.out; omega)).trans HX1.out) 1
        simp at e0 e1
        clear hup
        by_cases hjt : k < NS
        · have i1 : (k : Int) < NS := by omega
          obtain ⟨_, _, _, gx, ofx, ex, hgx, hcx⟩ := KS.out.on hyb
          simp only [Value.slice.injEq] at ex
          obtain ⟨rfl, -, rfl⟩ := ex
          obtain ⟨rfl, hgxl⟩ := hgx (by omega)
          obtain ⟨x, hx⟩ : ∃ x, rs[k]? = some x := ⟨rs[k]'(by have := HNS.out; omega), List.getElem?_eq_getElem (by have := HNS.out; omega)⟩
          obtain ⟨d0, _⟩ := spc_at rs k x hx
          have u0 := (hcx (k * 2) (by omega)).trans d0
          rcases Nat.eq_zero_or_pos k with hk0 | hk0
          · subst hk0
            have FIN := Lib.hid (show ∀ j x y, j + 1 < 0 + 1 → rs[j]? = some x → rs[j + 1]? = some y → x.t < y.t from fun j x y hj => absurd hj (by omega))
            clear hx d0 u0 hcx hyb hjt
            go_wp2
            go_quiet (fail)
            go_wp2
            exact ⟨⟨1, by simp, by omega, FIN, below_draw HYB.out _⟩, by simp [RowKit.intOf]; omega⟩
          · obtain ⟨m, rfl⟩ : ∃ m, k = m + 1 := ⟨k - 1, by omega⟩
            obtain ⟨y, hy⟩ : ∃ y, rs[m]? = some y := ⟨rs[m]'(by have := HNS.out; omega), List.getElem?_eq_getElem (by have := HNS.out; omega)⟩
            obtain ⟨f0, _⟩ := spc_at rs m y hy
            have w0 := (hcx (m * 2) (by omega)).trans f0
            have HNO2 := Lib.hid (show x.t ≤ y.t → ¬ GoodI rows from fun h => HNO.out (upI_no hy hx h))
            have HU2 := Lib.hid (show ¬ x.t ≤ y.t → ∀ j x y, j + 1 < m + 1 + 1 → rs[j]? = some x → rs[j + 1]? = some y → x.t < y.t from fun h j x2 y2 hj h1 h2 => by
              by_cases hjm : j = m
              · subst hjm
                rw [hy] at h1
                rw [hx] at h2
                obtain rfl := Option.some.inj h1
                obtain rfl := Option.some.inj h2
                omega
              · exact HU.out j x2 y2 (by omega) h1 h2)
            obtain ⟨xt, hxt⟩ : ∃ xt, xt = x.t := ⟨_, rfl⟩
            obtain ⟨yt, hyt⟩ : ∃ yt, yt = y.t := ⟨_, rfl⟩
            rw [← hxt] at u0
            rw [← hyt] at w0
            rw [← hxt, ← hyt] at HNO2 HU2
            have i2 : (0 : Int) ≤ m := by omega
            have i3 : (m : Int) < NS := by omega
            have i4 : (0 : Int) < (m : Int) + 1 := by omega
            have i5 : (m : Int) + 1 < NS := by omega
            have i6 : (0 : Int) ≤ (m : Int) + 1 := by omega
            have i7 : ((m : Int) + 1).toNat = m + 1 := by omega
            have wk : IntKind.i64.wrap ((m : Int) + 1 - 1) = (m : Int) := by rw [show (m : Int) + 1 - 1 = m by omega]; exact IntWalk.i64_in _ (by omega)
            have wk2 : IntKind.i64.wrap (m : Int) = (m : Int) := IntWalk.i64_in _ (by omega)
            clear hx hy d0 f0 hcx hyb hxt hyt i1
            by_cases hle : xt ≤ yt
            · have FIN := Lib.hid (HNO2.out hle)
              clear HNO2 HU2
              go_wp2
              go_quiet (fail)
              go_wp2
              go_ret
              exact ⟨Ans.no FIN.out, below_draw (B1.out.trans (HYB.out.mono B1.out.size)) _⟩
            · have FIN := Lib.hid (HU2.out hle)
              clear HNO2 HU2
              go_wp2
              go_quiet (fail)
              go_wp2
              exact ⟨⟨m + 1 + 1, by simp, by omega, FIN, below_draw HYB.out _⟩, by simp [RowKit.intOf]; omega⟩
        · have i1 : ¬ (k : Int) < NS := by omega
          have HUI := Lib.hid (show UpI rs from fun j x y hx hy => HU.out j x y (by have := (List.getElem?_eq_some_iff.1 hy).1; have := HNS.out; omega) hx hy)
          have HOF3 := Lib.hid (HOF2.out HUI.out)
          have BV := Lib.hid (B1.out.trans (hyb.mono B1.out.size))
          clear HOF2 HOF HNO
          rcases Nat.eq_zero_or_pos i with hi0 | hi0
          · subst hi0
            have FIN := Lib.hid (show ∀ j x y, j + 1 < 0 + 1 → qs[j]? = some x → qs[j + 1]? = some y → cmpS x.r.ls y.r.ls < 0 from fun j x y hj => absurd hj (by omega))
            clear hyb hjt
            go_wp2
            go_quiet (fail)
            go_wp2
            exact ⟨⟨1, by simp, by omega, HOF3, FIN, below_draw BV.out _⟩, by simp [RowKit.intOf]; omega⟩
          · obtain ⟨m, rfl⟩ : ∃ m, i = m + 1 := ⟨i - 1, by omega⟩
            obtain ⟨⟨ya, yb, yr⟩, hy⟩ : ∃ q, qs[m]? = some q := ⟨qs[m]'(by have := HN.out; omega), List.getElem?_eq_getElem (by have := HN.out; omega)⟩
            obtain ⟨f0, _⟩ := rqc_at qs m _ hy
            have oky := HOK.out _ (List.mem_of_getElem? hy)
            have hyl := oky.hl
            have hrl := oky.l
            simp only at f0 hyl hrl
            have CB := Lib.hid (fun W (bb : Below V2.heap.size V2 W) => rcmp_lb ya (.slice aa NL ca) yr.ls rl W ((hrl.on BV.out).on bb) (((KL.out.on hyb)).on bb) (by omega) (by have := HNL.out; omega))
            have RISNO := Lib.hid (show 0 ≤ cmpS yr.ls rl → ¬ GoodI rows from fun h hg => by
              have := risI_at (l := qs) (by rw [HRW.out]; exact hg.2) hy HX.out
              simp only at this
              omega)
            have RIS := Lib.hid (show cmpS yr.ls rl < 0 → ∀ j x y, j + 1 < m + 1 + 1 → qs[j]? = some x → qs[j + 1]? = some y → cmpS x.r.ls y.r.ls < 0 from fun h j x2 y2 hj h1 h2 => by
              by_cases hjm : j = m
              · subst hjm
                rw [hy] at h1
                rw [HX.out] at h2
                obtain rfl := Option.some.inj h1
                obtain rfl := Option.some.inj h2
                exact h
              · exact HRI.out j x2 y2 (by omega) h1 h2)
            obtain ⟨c, hcc⟩ : ∃ c, c = cmpS yr.ls rl := ⟨_, rfl⟩
            rw [← hcc] at CB RISNO RIS
            have FX := Lib.hid (fun W (bb : Below V2.heap.size V2 W) => show W.cell? ⟨g, off + m * 2, none⟩ = some ya ∧ W.cell? ⟨W0.heap.size, 0, none⟩ = some (.slice aa NL ca) from
              ⟨((BV.out.trans (bb.mono BV.out.size)).cell (p := ⟨g, off + m * 2, none⟩) hgl).trans ((HC.out (m * 2) (by have := HN.out; omega)).trans f0), (bb.cell (p := ⟨W0.heap.size, 0, none⟩) (by have := Y1.out; show W0.heap.size < V2.heap.size; omega)).trans e0⟩)
            have i2 : (0 : Int) ≤ m := by omega
            have i3 : (m : Int) < n := by omega
            have i4 : (0 : Int) < (m : Int) + 1 := by omega
            have i6 : (0 : Int) ≤ (m : Int) + 1 := by omega
            have i7 : ((m : Int) + 1).toNat = m + 1 := by omega
            have wk : IntKind.i64.wrap ((m : Int) + 1 - 1) = (m : Int) := by rw [show (m : Int) + 1 - 1 = m by omega]; exact IntWalk.i64_in _ (by omega)
            have wk2 : IntKind.i64.wrap (m : Int) = (m : Int) := IntWalk.i64_in _ (by omega)
            have B0 := Below.refl V2.heap.size V2
            obtain ⟨c0, c1⟩ := FX.out _ B0
            clear hy f0 oky hyl hrl hyb hcc e0 e1 r0 r1 hjt hlt
            go_upto_region 10 with fail
            have BQ := B0.drew
            go_region_held3 (fun W => W.cell? ⟨g, off + m * 2, none⟩ = some ya ∧ W.cell? ⟨W0.heap.size, 0, none⟩ = some (.slice aa NL ca))
              (first | (refine FX.out _ ?_; assumption) | assumption | fail)
              (first | (go_at_call 27; ((with_reducible refine (CB.out _ ?_).mono ?_)); exact BQ; rintro e w2 ⟨rfl, b2⟩; have B2 : Below V2.heap.size V2 w2 := BQ.trans (b2.mono BQ.size)) | fail)
            have HB2 := Lib.hid (BV.out.trans (B2.mono BV.out.size))
            clear B2 b2 BQ B0 CB FX c0 c1
            by_cases h0 : 0 ≤ c
            · have FIN := Lib.hid (RISNO.out h0)
              clear RISNO RIS
              go_wp2
              go_ret
              exact ⟨Ans.no FIN.out, HB2.out⟩
            · have FIN := Lib.hid (RIS.out (by omega))
              clear RISNO RIS
              go_wp2
              exact ⟨⟨m + 1 + 1, by simp, by omega, HOF3, FIN, HB2.out⟩, by simp [RowKit.intOf]; omega⟩
    · have hil : ¬ (i : Int) < n := by omega
      have FIN := Lib.hid (show GoodI rows from by
        have hin : i = n := by omega
        subst hin
        rw [← HRW.out]
        refine ⟨fun r hr => ?_, risI_of fun j x y hx hy => HRI.out j x y (by have := (List.getElem?_eq_some_iff.1 hy).1; have := HN.out; omega) hx hy⟩
        obtain ⟨q, hq, rfl⟩ := List.mem_map.1 hr
        obtain ⟨j, hj, rfl⟩ := List.mem_iff_getElem.1 hq
        exact HOF.out j _ (by have := HN.out; omega) (List.getElem?_eq_getElem hj))
      clear hb
      go_wp2
      go_ret
      exact ⟨Ans.yes FIN.out, HB.out⟩
end Go.Proofs.YtabeaehiidnbbaaDoor
