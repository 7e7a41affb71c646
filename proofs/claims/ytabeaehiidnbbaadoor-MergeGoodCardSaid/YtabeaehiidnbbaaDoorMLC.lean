/- Layer 6: two sets compared. -/
import Derived.Test.YtabeaehiidnbbaaDoorMLA
namespace Go.Proofs.YtabeaehiidnbbaaDoor
open Go.RowKit Go.Lib

/-- Two sets compared, pair by pair. -/
def cmpS : List Pr → List Pr → Int
  | [], [] => 0
  | [], _ :: _ => -1
  | _ :: _, [] => 1
  | x :: a, y :: b => if cfP x y = 0 then cmpS a b else cfP x y

theorem cmpp_at (x y : Pr) (w : World) (c : Int) (hc : cfP x y = c) : Calls Tryd.prog 47 #[prV x, prV y] w fun e w' => e = .returned (.int .i64 c) ∧ Below w.heap.size w w' := by
  subst hc
  refine (cmpp_any x y w).mono ?_
  rintro e w' ⟨rfl, q, os, rfl⟩
  exact ⟨rfl, ⟨rfl, rfl, rfl, by simp, fun k hk => Sort.heap_grow_old _ _ hk⟩⟩

set_option maxHeartbeats 1000000 in
set_option maxRecDepth 100000 in
theorem cmpf_any (u v : Value) (a b : List Pr) (w : World) (h : Rd w 2 u a.length (prc a)) (k : Rd w 2 v b.length (prc b)) (hm : a.length ≤ 1000000) (hm2 : b.length ≤ 1000000) :
    Calls Tryd.prog 46 #[u, v, .func (.func 47) #[] #[]] w fun e w' => e = .returned (.int .i64 (cmpS a b)) ∧ Below w.heap.size w w' := by
  obtain ⟨_, ua, ucap, g, off, rfl, hg, hc⟩ := h
  obtain ⟨_, va, vcap, g2, off2, rfl, hg2, hc2⟩ := k
  obtain ⟨n, hn⟩ : ∃ n, n = a.length := ⟨_, rfl⟩
  obtain ⟨m, hmm⟩ : ∃ m, m = b.length := ⟨_, rfl⟩
  rw [← hn] at hg hc hm ⊢
  rw [← hmm] at hg2 hc2 hm2 ⊢
  have HN := Lib.hid hn; have HM := Lib.hid hmm
  have HC := Lib.hid hc; have HC2 := Lib.hid hc2
  have HG := Lib.hid hg; have HG2 := Lib.hid hg2
  clear hn hmm hc hc2 hg hg2
  go_enter Tryd.func46, Tryd.ntmps46
  go_wp2_with fail
  go_loopw [13] (fun i' wr => ∃ (i : Nat), i' = .int .i64 i ∧ i ≤ n ∧ i ≤ m ∧ Hid (cmpS a b = cmpS (a.drop i) (b.drop i)) ∧ Below w.heap.size w wr) (fun i' _ => n - (intOf i').toNat)
  case atStart => exact ⟨0, rfl, by omega, by omega, rfl, Below.refl _ _⟩
  case round =>
    obtain ⟨i, rfl, hi, hj, hk, hb⟩ := hrel
    by_cases hlt : i < n
    · obtain ⟨rfl, hgl⟩ := HG.out (by omega)
      obtain ⟨x, hx⟩ : ∃ x, a[i]? = some x := ⟨a[i]'(by have := HN.out; omega), List.getElem?_eq_getElem (by have := HN.out; omega)⟩
      obtain ⟨v0, v1⟩ := prc_at a i x hx
      have q0 := ((hb.cell (p := ⟨g, off + i * 2, none⟩) hgl).trans (HC.out (i * 2) (by omega))).trans v0
      have q1 := ((hb.cell (p := ⟨g, off + (i * 2 + 1), none⟩) hgl).trans (HC.out (i * 2 + 1) (by omega))).trans v1
      rw [← Nat.add_assoc] at q1
      have hd : a.drop i = x :: a.drop (i + 1) := by
        rw [List.drop_eq_getElem_cons (by have := HN.out; omega)]
        congr 1
        rw [List.getElem?_eq_getElem (by have := HN.out; omega)] at hx
        exact Option.some.inj hx
      have hgw : g ≠ wr.heap.size := by have := hb.size; omega
      have hil : (i : Int) < n := by omega
      by_cases hjm : i < m
      · obtain ⟨rfl, hgl2⟩ := HG2.out (by omega)
        obtain ⟨y, hy⟩ : ∃ y, b[i]? = some y := ⟨b[i]'(by have := HM.out; omega), List.getElem?_eq_getElem (by have := HM.out; omega)⟩
        obtain ⟨u0, u1⟩ := prc_at b i y hy
        have p0 := ((hb.cell (p := ⟨g2, off2 + i * 2, none⟩) hgl2).trans (HC2.out (i * 2) (by omega))).trans u0
        have p1 := ((hb.cell (p := ⟨g2, off2 + (i * 2 + 1), none⟩) hgl2).trans (HC2.out (i * 2 + 1) (by omega))).trans u1
        rw [← Nat.add_assoc] at p1
        have hd2 : b.drop i = y :: b.drop (i + 1) := by
          rw [List.drop_eq_getElem_cons (by have := HM.out; omega)]
          congr 1
          rw [List.getElem?_eq_getElem (by have := HM.out; omega)] at hy
          exact Option.some.inj hy
        have hgw2 : g2 ≠ wr.heap.size := by have := hb.size; omega
        have hjl : ¬ (m : Int) ≤ i := by omega
        have ba := (Below.refl wr.heap.size wr).alloc (Nat.le_refl _) (Obj.cells #[.string (bs x.n), .string (bs x.v)] 67)
        have r0 := (ba.cell (p := ⟨g2, off2 + i * 2, none⟩) (by have := hb.size; show g2 < wr.heap.size; omega)).trans p0
        have r1 := (ba.cell (p := ⟨g2, off2 + i * 2 + 1, none⟩) (by have := hb.size; show g2 < wr.heap.size; omega)).trans p1
        have hkk := hk.out
        rw [hd, hd2, cmpS] at hkk
        have HP := Lib.hid (fun W => cmpp_at x y W _ rfl)
        generalize cfP x y = c at hkk HP
        unfold prV at HP
        by_cases hc0 : c = 0
        · subst hc0
          rw [if_pos rfl] at hkk
          have HQ := Lib.hid hkk
          clear hkk hk hd hd2 v0 v1 u0 u1 hx hy
          go_wp2_with fail
          refine (HP.out _).mono ?_
          rintro e w1 ⟨rfl, b1⟩
          go_wp2
          exact ⟨⟨i + 1, by simp, by omega, by omega, HQ.out, ((hb.alloc hb.size _).alloc (by have := hb.size; simp; omega) _).trans (b1.mono (by have := hb.size; simp; omega))⟩, by simp [intOf]; omega⟩
        · rw [if_neg hc0] at hkk
          have HQ := Lib.hid hkk
          clear hkk hk hd hd2 v0 v1 u0 u1 hx hy
          go_wp2_with fail
          refine (HP.out _).mono ?_
          rintro e w1 ⟨rfl, b1⟩
          go_wp2
          go_ret
          exact ⟨by rw [HQ.out]; rfl, ((hb.alloc hb.size _).alloc (by have := hb.size; simp; omega) _).trans (b1.mono (by have := hb.size; simp; omega))⟩
      · have hd2 : b.drop i = [] := List.drop_eq_nil_of_le (by have := HM.out; omega)
        have hjl : (m : Int) ≤ i := by omega
        have hkk := hk.out
        rw [hd, hd2, cmpS] at hkk
        have HQ := Lib.hid hkk
        clear hkk hk hd hd2 v0 v1 hx
        go_wp2
        go_ret
        exact ⟨by rw [HQ.out]; rfl, hb.alloc hb.size _⟩
    · have hin : i = n := by omega
      subst hin
      have hil : ¬ (i : Int) < i := by omega
      have hd : a.drop i = [] := List.drop_eq_nil_of_le (by have := HN.out; omega)
      by_cases hjm : i < m
      · have hjl : (i : Int) < m := by omega
        have hne : ∃ y r, b.drop i = y :: r := ⟨b[i]'(by have := HM.out; omega), b.drop (i + 1), List.drop_eq_getElem_cons (by have := HM.out; omega)⟩
        obtain ⟨y, r, hd2⟩ := hne
        have hkk := hk.out
        rw [hd, hd2, cmpS] at hkk
        have HQ := Lib.hid hkk
        clear hkk hk hd hd2
        go_wp2
        go_ret
        exact ⟨by rw [HQ.out]; rfl, hb⟩
      · have him : i = m := by omega
        subst him
        have hd2 : b.drop i = [] := List.drop_eq_nil_of_le (by have := HM.out; omega)
        have hkk := hk.out
        rw [hd, hd2, cmpS] at hkk
        have HQ := Lib.hid hkk
        clear hkk hk hd hd2
        go_wp2
        go_ret
        exact ⟨by rw [HQ.out]; rfl, hb⟩
theorem cmp_lb (u v : Value) (a b : List Pr) (w : World) (h : Rd w 2 u a.length (prc a)) (k : Rd w 2 v b.length (prc b)) (hm : a.length ≤ 1000000) (hm2 : b.length ≤ 1000000) :
    Calls Tryd.prog 36 #[u, v] w fun e w' => e = .returned (.int .i64 (cmpS a b)) ∧ Below w.heap.size w w' := by
  have H := Lib.hid (cmpf_any u v a b w h k hm hm2)
  clear h k
  go_enter Tryd.func36, Tryd.ntmps36
  go_wp2_with fail
  refine H.out.mono ?_
  rintro e w1 ⟨rfl, b1⟩
  go_wp2
  go_ret
  exact ⟨rfl, b1⟩
end Go.Proofs.YtabeaehiidnbbaaDoor
