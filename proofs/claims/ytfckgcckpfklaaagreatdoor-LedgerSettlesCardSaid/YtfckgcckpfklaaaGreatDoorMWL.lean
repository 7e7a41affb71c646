/- Layer 14: do lists rise; walked. -/
import Derived.Test.YtfckgcckpfklaaaGreatDoorMWF
import Derived.Deep.RegionHeld3
namespace Go.Proofs.YtfckgcckpfklaaaGreatDoor
open Go.RowKit Go.Lib Hp
set_option linter.unusedVariables false

/-- A truth is answered: whether so. -/
def Ans (P : Prop) (e : Ending) : Prop := ∃ b, e = .returned (.bool b) ∧ (b = true ↔ P)
theorem Ans.no {P : Prop} (h : ¬ P) : Ans P (.returned (.bool false)) := ⟨false, rfl, fun h => (by cases h), fun k => absurd k h⟩
theorem Ans.yes {P : Prop} (h : P) : Ans P (.returned (.bool true)) := ⟨true, rfl, fun _ => h, fun _ => rfl⟩
/-- Each ahead of the next one. -/
def UpI (l : List Sp) : Prop := ∀ i x y, l[i]? = some x → l[i + 1]? = some y → x.t < y.t
def RisI (l : List Rw) : Prop := ∀ i x y, l[i]? = some x → l[i + 1]? = some y → cmpS x.ls y.ls < 0
theorem cmpI_lt {a b : Int} : cmpI a b < 0 ↔ a < b := by
  unfold cmpI
  by_cases h : a < b
  · simp [h]
  · by_cases h2 : b < a <;> simp [h, h2]
theorem risI_of {l : List Rq} (h : ∀ j x y, l[j]? = some x → l[j + 1]? = some y → cmpS x.r.ls y.r.ls < 0) : RisI (rws l) := by
  intro i x y hx hy
  unfold rws at hx hy
  rw [List.getElem?_map] at hx hy
  cases h1 : l[i]? with
  | none => rw [h1] at hx; cases hx
  | some q =>
    cases h2 : l[i + 1]? with
    | none => rw [h2] at hy; cases hy
    | some r =>
      rw [h1] at hx
      rw [h2] at hy
      obtain rfl := Option.some.inj hx
      obtain rfl := Option.some.inj hy
      exact h i q r h1 h2
theorem risI_at {l : List Rq} {k : Nat} {x y : Rq} (h : RisI (rws l)) (hx : l[k]? = some x) (hy : l[k + 1]? = some y) : cmpS x.r.ls y.r.ls < 0 :=
  h k x.r y.r (by unfold rws; rw [List.getElem?_map, hx]; rfl) (by unfold rws; rw [List.getElem?_map, hy]; rfl)
theorem upI_of_up {l : List Sp} (h : Up l) : UpI l := by
  intro i x y hx hy
  obtain ⟨h1, rfl⟩ := List.getElem?_eq_some_iff.1 hx
  obtain ⟨h2, rfl⟩ := List.getElem?_eq_some_iff.1 hy
  exact List.pairwise_iff_getElem.1 h i (i + 1) h1 h2 (Nat.lt_succ_self i)
theorem risI_of_up {l : List Rw} (h : UpT l) : RisI l := by
  intro i x y hx hy
  obtain ⟨h1, rfl⟩ := List.getElem?_eq_some_iff.1 hx
  obtain ⟨h2, rfl⟩ := List.getElem?_eq_some_iff.1 hy
  exact List.pairwise_iff_getElem.1 h.1 i (i + 1) h1 h2 (Nat.lt_succ_self i)
/-- A table. -/
def GoodI (l : List Rw) : Prop := (∀ r ∈ l, UpI r.ss) ∧ RisI l
theorem goodI_of_up {l : List Rw} (h : UpT l) : GoodI l := ⟨fun r hr => upI_of_up (h.2 r hr), risI_of_up h⟩

set_option maxHeartbeats 4000000 in
set_option maxRecDepth 100000 in
theorem rises_S (v : Value) (l : List Sp) (w : World) (h : Rd w 2 v l.length (spc l)) (hm : l.length ≤ 1000000) :
    Calls Tryz.prog 79 #[v, .func (.func 77) #[] #[]] w fun e w' => Ans (UpI l) e ∧ Below w.heap.size w w' := by
  obtain ⟨_, a, cap, g, off, rfl, hg, hc⟩ := h
  obtain ⟨n, hn⟩ : ∃ n, n = l.length := ⟨_, rfl⟩
  have HN := Lib.hid hn
  have HC := Lib.hid hc
  have HG := Lib.hid hg
  rw [← hn] at hm HG
  rw [← hn]
  clear hn hc hg
  go_enter Tryz.func79, Tryz.ntmps79
  go_wp2_with fail
  go_loopw [5] (fun k' wr => ∃ (k : Nat), k' = .int .i64 ((k : Int) + 1) ∧ (k = 0 ∨ k + 1 ≤ n) ∧ Hid (∀ j x y, j < k → l[j]? = some x → l[j + 1]? = some y → cmpI x.t y.t < 0) ∧ Below w.heap.size w wr) (fun k' _ => n - (RowKit.intOf k').toNat)
  case atStart => exact ⟨0, rfl, .inl rfl, Lib.hid (fun j x y hj => absurd hj (Nat.not_lt_zero _)), Below.refl _ _⟩
  case round =>
    obtain ⟨W0, rfl⟩ : ∃ W0, W0 = wr := ⟨_, rfl⟩
    obtain ⟨k, rfl, hk, hof, hb⟩ := hrel
    have HB := Lib.hid hb
    have HOF := Lib.hid hof.out
    clear hof
    by_cases hlt : k + 1 < n
    · obtain ⟨rfl, hgl⟩ := HG.out (by omega)
      obtain ⟨x, hx⟩ : ∃ x, l[k]? = some x := ⟨l[k]'(by have := HN.out; omega), List.getElem?_eq_getElem (by have := HN.out; omega)⟩
      obtain ⟨y, hy⟩ : ∃ y, l[k + 1]? = some y := ⟨l[k + 1]'(by have := HN.out; omega), List.getElem?_eq_getElem (by have := HN.out; omega)⟩
      obtain ⟨v0, v1⟩ := spc_at l k x hx
      obtain ⟨u0, u1⟩ := spc_at l (k + 1) y hy
      have hx' := hx
      have hy' := hy
      have CB := Lib.hid (fun W (bb : Below W0.heap.size W0 W) => bytime_any x y W)
      obtain ⟨c, hcc⟩ : ∃ c, c = cmpI x.t y.t := ⟨_, rfl⟩
      rw [← hcc] at CB
      have HCC := Lib.hid hcc
      have hz := hb.size
      have FX := Lib.hid (fun W (bb : Below W0.heap.size W0 W) => show W.cell? ⟨g, off + k * 2, none⟩ = some (.int .i64 x.t) ∧ W.cell? ⟨g, off + k * 2 + 1, none⟩ = some (.int .u64 x.v) ∧ W.cell? ⟨g, off + (k + 1) * 2, none⟩ = some (.int .i64 y.t) ∧ W.cell? ⟨g, off + (k + 1) * 2 + 1, none⟩ = some (.int .u64 y.v) from by
        have bW : Below w.heap.size w W := hb.trans (bb.mono hz)
        have := HN.out
        exact ⟨(bW.cell (p := ⟨g, off + k * 2, none⟩) hgl).trans ((HC.out (k * 2) (by omega)).trans v0), (bW.cell (p := ⟨g, off + (k * 2 + 1), none⟩) hgl).trans ((HC.out (k * 2 + 1) (by omega)).trans v1), (bW.cell (p := ⟨g, off + (k + 1) * 2, none⟩) hgl).trans ((HC.out ((k + 1) * 2) (by omega)).trans u0), (bW.cell (p := ⟨g, off + ((k + 1) * 2 + 1), none⟩) hgl).trans ((HC.out ((k + 1) * 2 + 1) (by omega)).trans u1)⟩)
      have HNO := Lib.hid (show 0 ≤ c → ¬ UpI l from fun h0 hu => by
        have := hu k x y hx' hy'; rw [← cmpI_lt, ← HCC.out] at this; omega)
      have HOF2 := Lib.hid (show c < 0 → ∀ j x y, j < k + 1 → l[j]? = some x → l[j + 1]? = some y → cmpI x.t y.t < 0 from fun h0 j x2 y2 hj h1 h2 => by
        by_cases hjk : j = k
        · subst hjk
          rw [hx'] at h1
          rw [hy'] at h2
          obtain rfl := Option.some.inj h1
          obtain rfl := Option.some.inj h2
          rw [← HCC.out]; exact h0
        · exact HOF.out j x2 y2 (by omega) h1 h2)
      obtain ⟨xt, hxt⟩ : ∃ z, z = x.t := ⟨_, rfl⟩
      obtain ⟨xv, hxv⟩ : ∃ z, z = x.v := ⟨_, rfl⟩
      obtain ⟨yt, hyt⟩ : ∃ z, z = y.t := ⟨_, rfl⟩
      obtain ⟨yv, hyv⟩ : ∃ z, z = y.v := ⟨_, rfl⟩
      rw [← hxt, ← hxv, ← hyt, ← hyv] at FX CB
      have i1 : (k : Int) + 1 < n := by omega
      have i2 : (0 : Int) ≤ (k : Int) + 1 := by omega
      have i3 : (k : Int) < n := by omega
      have i4 : (0 : Int) ≤ k := by omega
      have i5 : ((k : Int) + 1).toNat = k + 1 := by omega
      have wk : IntKind.i64.wrap ((k : Int) + 1 - 1) = (k : Int) := by rw [show (k : Int) + 1 - 1 = k by omega]; exact IntWalk.i64_in _ (by omega)
      have wk2 : IntKind.i64.wrap (k : Int) = (k : Int) := IntWalk.i64_in _ (by omega)
      have B0 := Below.refl W0.heap.size W0
      obtain ⟨c0, c1, c2, c3⟩ := FX.out _ B0
      clear hx hy hx' hy' v0 v1 u0 u1 hcc hb hz hxt hxv hyt hyv
      go_upto_region 4 with fail
      have BQ := B0.drew
      go_region_held3 (fun W => W.cell? ⟨g, off + k * 2, none⟩ = some (.int .i64 xt) ∧ W.cell? ⟨g, off + k * 2 + 1, none⟩ = some (.int .u64 xv) ∧ W.cell? ⟨g, off + (k + 1) * 2, none⟩ = some (.int .i64 yt) ∧ W.cell? ⟨g, off + (k + 1) * 2 + 1, none⟩ = some (.int .u64 yv))
        (first | (refine FX.out _ ?_; assumption) | assumption | fail)
        (first | (go_at_call 77; ((with_reducible refine (CB.out _ ?_).mono ?_)); exact BQ; rintro e w2 ⟨rfl, b2⟩; have B2 : Below W0.heap.size W0 w2 := BQ.trans (b2.mono BQ.size)) | fail)
      have HB2 := Lib.hid (HB.out.trans (B2.mono HB.out.size))
      clear B2 b2 BQ B0 CB FX c0 c1 c2 c3
      by_cases h0 : 0 ≤ c
      · have FIN := Lib.hid (HNO.out h0)
        clear HNO HOF2
        go_wp2
        go_ret
        exact ⟨Ans.no FIN.out, HB2.out⟩
      · have h1 := Lib.hid (HOF2.out (by omega))
        clear HNO HOF2
        go_wp2
        exact ⟨⟨k + 1, by simp, .inr (by omega), h1, HB2.out⟩, by simp [RowKit.intOf]; omega⟩
    · have hil : ¬ (k : Int) + 1 < n := by omega
      have FIN := Lib.hid (show UpI l from by
        have hnn := HN.out
        exact fun j x y hx hy => cmpI_lt.1 (HOF.out j x y (by have := (List.getElem?_eq_some_iff.1 hy).1; omega) hx hy))
      clear hb
      go_wp2
      go_ret
      exact ⟨Ans.yes FIN.out, HB.out⟩

set_option maxHeartbeats 4000000 in
set_option maxRecDepth 100000 in
theorem rises_R (v : Value) (l : List Rq) (w : World) (h : RdQ w v l) (hm : l.length ≤ 1000000) :
    Calls Tryz.prog 80 #[v, .func (.func 28) #[] #[]] w fun e w' => Ans (RisI (rws l)) e ∧ Below w.heap.size w w' := by
  obtain ⟨⟨_, a, cap, g, off, rfl, hg, hc⟩, hok⟩ := h
  have HOK := Lib.hid hok
  obtain ⟨n, hn⟩ : ∃ n, n = l.length := ⟨_, rfl⟩
  have HN := Lib.hid hn
  have HC := Lib.hid hc
  have HG := Lib.hid hg
  rw [← hn] at hm HG
  rw [← hn]
  clear hn hc hg hok
  go_enter Tryz.func80, Tryz.ntmps80
  go_wp2_with fail
  go_loopw [5] (fun k' wr => ∃ (k : Nat), k' = .int .i64 ((k : Int) + 1) ∧ (k = 0 ∨ k + 1 ≤ n) ∧ Hid (∀ j x y, j < k → l[j]? = some x → l[j + 1]? = some y → cmpS x.r.ls y.r.ls < 0) ∧ Below w.heap.size w wr) (fun k' _ => n - (RowKit.intOf k').toNat)
  case atStart => exact ⟨0, rfl, .inl rfl, Lib.hid (fun j x y hj => absurd hj (Nat.not_lt_zero _)), Below.refl _ _⟩
  case round =>
    obtain ⟨W0, rfl⟩ : ∃ W0, W0 = wr := ⟨_, rfl⟩
    obtain ⟨k, rfl, hk, hof, hb⟩ := hrel
    have HB := Lib.hid hb
    have HOF := Lib.hid hof.out
    clear hof
    by_cases hlt : k + 1 < n
    · obtain ⟨rfl, hgl⟩ := HG.out (by omega)
      obtain ⟨x, hx⟩ : ∃ x, l[k]? = some x := ⟨l[k]'(by have := HN.out; omega), List.getElem?_eq_getElem (by have := HN.out; omega)⟩
      obtain ⟨y, hy⟩ : ∃ y, l[k + 1]? = some y := ⟨l[k + 1]'(by have := HN.out; omega), List.getElem?_eq_getElem (by have := HN.out; omega)⟩
      obtain ⟨v0, v1⟩ := rqc_at l k x hx
      obtain ⟨u0, u1⟩ := rqc_at l (k + 1) y hy
      have hx' := hx
      have hy' := hy
      have CB := Lib.hid (fun W (bb : Below W0.heap.size W0 W) => bylabels_any x y W (((HOK.out _ (List.mem_of_getElem? hx)).on hb).on bb) (((HOK.out _ (List.mem_of_getElem? hy)).on hb).on bb))
      obtain ⟨c, hcc⟩ : ∃ c, c = cmpS x.r.ls y.r.ls := ⟨_, rfl⟩
      rw [← hcc] at CB
      have HCC := Lib.hid hcc
      have hz := hb.size
      have FX := Lib.hid (fun W (bb : Below W0.heap.size W0 W) => show W.cell? ⟨g, off + k * 2, none⟩ = some x.a ∧ W.cell? ⟨g, off + k * 2 + 1, none⟩ = some x.b ∧ W.cell? ⟨g, off + (k + 1) * 2, none⟩ = some y.a ∧ W.cell? ⟨g, off + (k + 1) * 2 + 1, none⟩ = some y.b from by
        have bW : Below w.heap.size w W := hb.trans (bb.mono hz)
        have := HN.out
        exact ⟨(bW.cell (p := ⟨g, off + k * 2, none⟩) hgl).trans ((HC.out (k * 2) (by omega)).trans v0), (bW.cell (p := ⟨g, off + (k * 2 + 1), none⟩) hgl).trans ((HC.out (k * 2 + 1) (by omega)).trans v1), (bW.cell (p := ⟨g, off + (k + 1) * 2, none⟩) hgl).trans ((HC.out ((k + 1) * 2) (by omega)).trans u0), (bW.cell (p := ⟨g, off + ((k + 1) * 2 + 1), none⟩) hgl).trans ((HC.out ((k + 1) * 2 + 1) (by omega)).trans u1)⟩)
      have HNO := Lib.hid (show 0 ≤ c → ¬ RisI (rws l) from fun h0 hu => by
        have := risI_at hu hx' hy'; rw [← HCC.out] at this; omega)
      have HOF2 := Lib.hid (show c < 0 → ∀ j x y, j < k + 1 → l[j]? = some x → l[j + 1]? = some y → cmpS x.r.ls y.r.ls < 0 from fun h0 j x2 y2 hj h1 h2 => by
        by_cases hjk : j = k
        · subst hjk
          rw [hx'] at h1
          rw [hy'] at h2
          obtain rfl := Option.some.inj h1
          obtain rfl := Option.some.inj h2
          rw [← HCC.out]; exact h0
        · exact HOF.out j x2 y2 (by omega) h1 h2)
      obtain ⟨xt, hxt⟩ : ∃ z, z = x.a := ⟨_, rfl⟩
      obtain ⟨xv, hxv⟩ : ∃ z, z = x.b := ⟨_, rfl⟩
      obtain ⟨yt, hyt⟩ : ∃ z, z = y.a := ⟨_, rfl⟩
      obtain ⟨yv, hyv⟩ : ∃ z, z = y.b := ⟨_, rfl⟩
      rw [← hxt, ← hxv, ← hyt, ← hyv] at FX CB
      have i1 : (k : Int) + 1 < n := by omega
      have i2 : (0 : Int) ≤ (k : Int) + 1 := by omega
      have i3 : (k : Int) < n := by omega
      have i4 : (0 : Int) ≤ k := by omega
      have i5 : ((k : Int) + 1).toNat = k + 1 := by omega
      have wk : IntKind.i64.wrap ((k : Int) + 1 - 1) = (k : Int) := by rw [show (k : Int) + 1 - 1 = k by omega]; exact IntWalk.i64_in _ (by omega)
      have wk2 : IntKind.i64.wrap (k : Int) = (k : Int) := IntWalk.i64_in _ (by omega)
      have B0 := Below.refl W0.heap.size W0
      obtain ⟨c0, c1, c2, c3⟩ := FX.out _ B0
      clear hx hy hx' hy' v0 v1 u0 u1 hcc hb hz hxt hxv hyt hyv
      go_upto_region 4 with fail
      have BQ := B0.drew
      go_region_held3 (fun W => W.cell? ⟨g, off + k * 2, none⟩ = some xt ∧ W.cell? ⟨g, off + k * 2 + 1, none⟩ = some xv ∧ W.cell? ⟨g, off + (k + 1) * 2, none⟩ = some yt ∧ W.cell? ⟨g, off + (k + 1) * 2 + 1, none⟩ = some yv)
        (first | (refine FX.out _ ?_; assumption) | assumption | fail)
        (first | (go_at_call 28; ((with_reducible refine (CB.out _ ?_).mono ?_)); exact BQ; rintro e w2 ⟨rfl, b2⟩; have B2 : Below W0.heap.size W0 w2 := BQ.trans (b2.mono BQ.size)) | fail)
      have HB2 := Lib.hid (HB.out.trans (B2.mono HB.out.size))
      clear B2 b2 BQ B0 CB FX c0 c1 c2 c3
      by_cases h0 : 0 ≤ c
      · have FIN := Lib.hid (HNO.out h0)
        clear HNO HOF2
        go_wp2
        go_ret
        exact ⟨Ans.no FIN.out, HB2.out⟩
      · have h1 := Lib.hid (HOF2.out (by omega))
        clear HNO HOF2
        go_wp2
        exact ⟨⟨k + 1, by simp, .inr (by omega), h1, HB2.out⟩, by simp [RowKit.intOf]; omega⟩
    · have hil : ¬ (k : Int) + 1 < n := by omega
      have FIN := Lib.hid (show RisI (rws l) from by
        have hnn := HN.out
        exact risI_of fun j x y hx hy => HOF.out j x y (by have := (List.getElem?_eq_some_iff.1 hy).1; omega) hx hy)
      clear hb
      go_wp2
      go_ret
      exact ⟨Ans.yes FIN.out, HB.out⟩
end Go.Proofs.YtfckgcckpfklaaaGreatDoor
