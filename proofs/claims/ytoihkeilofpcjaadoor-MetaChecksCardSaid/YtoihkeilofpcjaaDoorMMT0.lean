/- Layer 9, the document's: is it a name; a text's bytes. Layer 9, the document's: may a meta be said? -/
import Derived.Test.YtoihkeilofpcjaaDoorMME
import Derived.Test.YtoihkeilofpcjaaDoorMIB
import Derived.Deep.CutRange
import Derived.Deep.RegionHeld3
namespace Go.Proofs.YtoihkeilofpcjaaDoor
open Go.RowKit Go.Lib
set_option linter.unusedVariables false

theorem rtxt_any (s : ByteArray) (w : World) (hs : s.size ≤ 140737488355000) :
    Calls Tryd.prog 31 #[.string s] w fun e w' => e = .returned (.string (bs (Leb.encT s.data.toList))) ∧ Below w.heap.size w w' := by
  have hlen := Leb.encU_len s.size
  have hs1 := bs_size_le (Leb.encU s.size) 10 hlen.2
  have he : bs (Leb.encU s.size) ++ s = bs (Leb.encT s.data.toList) := by
    rw [Leb.encT, ← bs_append]; rfl
  have HE := Lib.hid he; clear he
  go_enter Tryd.func31, Tryd.ntmps31
  go_wp2_with (go_at_call 32; refine (ruint_any s.size _ (by unfold Leb.two64; omega)).mono ?_; rintro e w' ⟨rfl, hb⟩)
  go_ret
  exact ⟨by rw [← HE.out]; rfl, hb⟩


set_option maxRecDepth 100000 in
theorem rid9_any (l : List UInt8) (w : World) : Calls Tryd.prog 26 #[.string (bs l)] w fun e w' => e = .returned (.bool (Mt.isN l)) ∧ Below w.heap.size w w' := by
  have P := Lib.hid (fun W => show Calls Tryd.prog 44 #[.string (bs l)] W (fun e w' => e = .returned (rparV (pars l)) ∧ Below W.heap.size W w') from by
    refine (rparse_id (bs l) W).mono ?_
    rintro e w' ⟨rfl, d⟩
    exact ⟨rfl, Drw.below (Below.refl _ _) d⟩)
  obtain ⟨p, hp⟩ : ∃ p, p = pars l := ⟨_, rfl⟩
  have HN := Lib.hid (show Mt.isN l = p.isSome by rw [hp, pars_isN])
  rw [← hp] at P
  rw [HN.out]
  clear hp
  cases p with
  | none =>
    unfold rparV at P
    go_enter Tryd.func26, Tryd.ntmps26
    go_wp2_with fail
    refine (P.out _).mono ?_
    rintro e w1 ⟨rfl, b⟩
    go_wp2
    go_ret
    exact ⟨rfl, b⟩
  | some q =>
    obtain ⟨a, b⟩ := q
    unfold rparV at P
    go_enter Tryd.func26, Tryd.ntmps26
    go_wp2_with fail
    refine (P.out _).mono ?_
    rintro e w1 ⟨rfl, b⟩
    go_wp2
    go_ret
    exact ⟨rfl, b⟩
end Go.Proofs.YtoihkeilofpcjaaDoor

namespace Go.Proofs.YtoihkeilofpcjaaDoor
open Go.RowKit Go.Lib
set_option linter.unusedVariables false

theorem chkT {m : Mt.Me} (h : Mt.okT m = false) : Mt.chk m = false := by unfold Mt.chk; rw [h]; simp
theorem chkN {m : Mt.Me} (h : Mt.okN m = false) : Mt.chk m = false := by unfold Mt.chk; rw [h]; simp
/-- Sizes that may be. -/
def szs (l : List Mt.Fl) : Bool := l.all fun f => decide (0 ≤ f.size) && decide (f.size ≤ 1048576)
theorem isN_some (x : List UInt8) (h : Mt.isN x = true) : ([] : List UInt8) < x := by
  cases x with
  | nil => exact absurd h (by decide)
  | cons a l => exact List.nil_lt_cons a l
theorem step_none (b : Bool) (x id : List UInt8) (R1 : Bool) (h : b = true → ([] : List UInt8) < x) : (b && !decide (x = id) && R1) = (b && !decide (x = id) && decide (([] : List UInt8) < x) && R1) := by
  cases b with
  | false => rfl
  | true => rw [decide_eq_true (h rfl)]; cases decide (x = id) <;> rfl
def lastS (l : List (List UInt8)) (i : Nat) : List UInt8 := (prevS l i).getD []

set_option maxHeartbeats 4000000 in
set_option maxRecDepth 100000 in
theorem rcheck9_any (m : Mt.Me) (vf vs : Value) (w : World) (h : MeR w m vf vs) :
    Calls Tryd.prog 9 #[meV m vf vs] w fun e w' => e = .returned (.bool (Mt.chk m)) ∧ Below w.heap.size w w' := by
  have hT := bs_toList
  obtain ⟨id, mn, mx, lv, se, sa, files, src⟩ := m
  obtain ⟨⟨_, af, kf, gf, of', rfl, hgf, hcf⟩, ⟨_, a5, k5, g5, o5, rfl, hg, hc⟩, hfm, hsm⟩ := h
  simp only [Nat.mul_one] at hg hc hgf hcf hfm hsm
  unfold meV
  obtain ⟨R, hR⟩ : ∃ R, R = Mt.chk ⟨id, mn, mx, lv, se, sa, files, src⟩ := ⟨_, rfl⟩
  rw [← hR]
  have RT := Lib.hid (fun h => hR.trans (chkT (m := ⟨id, mn, mx, lv, se, sa, files, src⟩) h))
  have RN := Lib.hid (fun h => hR.trans (chkN (m := ⟨id, mn, mx, lv, se, sa, files, src⟩) h))
  have HR := Lib.hid hR
  obtain ⟨N, hN⟩ : ∃ N, N = files.length := ⟨_, rfl⟩
  obtain ⟨n, hn⟩ : ∃ n, n = src.length := ⟨_, rfl⟩
  show Calls _ _ #[.agg #[_, _, _, _, _, _, .slice af files.length kf, .slice a5 src.length k5]] _ _
  rw [← hN] at hgf hcf hfm ⊢
  rw [← hn] at hg hc hsm ⊢
  have HN := Lib.hid hN
  have Hn := Lib.hid hn
  have HG := Lib.hid hg
  have HC := Lib.hid hc
  have HGF := Lib.hid hgf
  have HCF := Lib.hid hcf
  have ID := Lib.hid (fun W x => rid9_any x W)
  obtain ⟨b1, hb1⟩ : ∃ b1, b1 = Mt.isN id := ⟨_, rfl⟩
  have ID0 := Lib.hid (fun W => show Calls Tryd.prog 26 #[.string (bs id)] W (fun e w' => e = .returned (.bool b1) ∧ Below W.heap.size W w') by rw [hb1]; exact rid9_any id W)
  have HB := Lib.hid hb1
  clear hR hN hn hg hc hgf hcf hb1
  go_enter Tryd.func9, Tryd.ntmps9
  go_upto_region 1 with fail
  have hm0 := heap_alloc_new w (.cells #[.string (bs id), .int .i64 mn, .int .i64 mx, .int .i64 lv, .int .i64 se, .int .i64 sa, .slice af N kf, .slice a5 n k5] 30)
  obtain ⟨V, hV⟩ : ∃ V, V = w.alloc (.cells #[.string (bs id), .int .i64 mn, .int .i64 mx, .int .i64 lv, .int .i64 se, .int .i64 sa, .slice af N kf, .slice a5 n k5] 30) := ⟨_, rfl⟩
  rw [← hV] at hm0 ⊢
  have bV : Below w.heap.size w V := by rw [hV]; exact (Below.refl _ _).alloc (Nat.le_refl _) _
  have zV : w.heap.size < V.heap.size := by rw [hV]; simp
  have KP := Lib.hid (fun W (b : Below V.heap.size V W) => show W.heap[w.heap.size]? = some (.cells #[.string (bs id), .int .i64 mn, .int .i64 mx, .int .i64 lv, .int .i64 se, .int .i64 sa, .slice af N kf, .slice a5 n k5] 30) from (b.block w.heap.size zV).trans hm0)
  have BV := Lib.hid bV
  obtain ⟨c0, c1, c2, c3, c4, c5, c6, c7⟩ := cells8 hm0
  clear hV hm0 bV zV
  go_wp2_with fail
  refine (ID0.out _).mono ?_
  rintro e w1 ⟨rfl, b1'⟩
  obtain ⟨d0, d1, d2, d3, d4, d5, d6, d7⟩ := cells8 (KP.out w1 b1')
  have B1 := Lib.hid b1'
  clear c0 c1 c2 c3 c4 c5 c6 c7 b1'
  rcases b1 with _ | _
  · have HQ := Lib.hid (show R = false by rw [HR.out]; unfold Mt.chk; rw [show Mt.isN id = false from HB.out.symm]; rfl)
    go_wp2_with fail
    go_ret
    exact ⟨by rw [HQ.out]; rfl, BV.out.trans (B1.out.mono BV.out.size)⟩
  · by_cases t0 : mn < 0
    · have HQ := Lib.hid (show R = false from RT.out (by unfold Mt.okT; simp; omega))
      go_wp2_with fail
      go_ret
      exact ⟨by rw [HQ.out]; rfl, BV.out.trans (B1.out.mono BV.out.size)⟩
    by_cases t1 : 1099511627776 < mx
    · have HQ := Lib.hid (show R = false from RT.out (by unfold Mt.okT; simp; omega))
      go_wp2_with fail
      go_ret
      exact ⟨by rw [HQ.out]; rfl, BV.out.trans (B1.out.mono BV.out.size)⟩
    by_cases t2 : mx ≤ mn
    · have HQ := Lib.hid (show R = false from RT.out (by unfold Mt.okT; simp; omega))
      go_wp2_with fail
      go_ret
      exact ⟨by rw [HQ.out]; rfl, BV.out.trans (B1.out.mono BV.out.size)⟩
    by_cases t3 : lv < 1
    · have HQ := Lib.hid (show R = false from RN.out (by unfold Mt.okN; simp; omega))
      go_wp2_with fail
      go_ret
      exact ⟨by rw [HQ.out]; rfl, BV.out.trans (B1.out.mono BV.out.size)⟩
    by_cases t4 : 9 < lv
    · have HQ := Lib.hid (show R = false from RN.out (by unfold Mt.okN; simp; omega))
      go_wp2_with fail
      go_ret
      exact ⟨by rw [HQ.out]; rfl, BV.out.trans (B1.out.mono BV.out.size)⟩
    by_cases t5 : se < 0
    · have HQ := Lib.hid (show R = false from RN.out (by unfold Mt.okN; simp; omega))
      go_wp2_with fail
      go_ret
      exact ⟨by rw [HQ.out]; rfl, BV.out.trans (B1.out.mono BV.out.size)⟩
    by_cases t6 : sa < se
    · have HQ := Lib.hid (show R = false from RN.out (by unfold Mt.okN; simp; omega))
      go_wp2_with fail
      go_ret
      exact ⟨by rw [HQ.out]; rfl, BV.out.trans (B1.out.mono BV.out.size)⟩
    by_cases t7 : 1073741824 < sa
    · have HQ := Lib.hid (show R = false from RN.out (by unfold Mt.okN; simp; omega))
      go_wp2_with fail
      go_ret
      exact ⟨by rw [HQ.out]; rfl, BV.out.trans (B1.out.mono BV.out.size)⟩
    have okT' : Mt.okT ⟨id, mn, mx, lv, se, sa, files, src⟩ = true := by unfold Mt.okT; simp; omega
    have okN' : Mt.okN ⟨id, mn, mx, lv, se, sa, files, src⟩ = true := by unfold Mt.okN; simp; omega
    have RF := Lib.hid (show R = (Mt.okFs files && (decide (src.length ≤ 50) && Mt.okSs id none src)) by
      rw [HR.out]
      unfold Mt.chk
      rw [okT', okN', show Mt.isN id = true from HB.out.symm]
      rfl)
    clear okT' okN'
    go_upto_region 3 with fail
    clear t0 t1 t2 t3 t4 t5 t6 t7
    have hz1 := B1.out.size
    have hzv := BV.out.size
    have BW := Lib.hid (BV.out.trans (B1.out.mono BV.out.size))
    by_cases h2 : N = 2
    · subst h2
      obtain ⟨rfl, hgl⟩ := HGF.out (by omega)
      obtain ⟨f, g, rfl⟩ : ∃ f g, files = [f, g] := by
        have hl := HN.out
        match files, hl with
        | [f, g], _ => exact ⟨f, g, rfl⟩
      obtain ⟨v0, v1, v2⟩ := flc_at [f, g] 0 f rfl
      obtain ⟨v3, v4, v5⟩ := flc_at [f, g] 1 g rfl
      have q0 : w1.cell? ⟨gf, of', none⟩ = some (.string (bs f.name)) := ((BW.out.cell (p := ⟨gf, of' + 0, none⟩) hgl).trans (HCF.out 0 (by omega))).trans v0
      have q3 : w1.cell? ⟨gf, of' + 3, none⟩ = some (.string (bs g.name)) := ((BW.out.cell (p := ⟨gf, of' + 3, none⟩) hgl).trans (HCF.out 3 (by omega))).trans v3
      clear v0 v1 v2 v3 v4 v5
      by_cases s1 : f.name = Mt.nmC
      · have k1 : (f.name == [99, 104, 117, 110, 107, 115]) = true := beq_iff_eq.2 s1
        have k1' : (f.name != [99, 104, 117, 110, 107, 115]) = false := by rw [bne, k1]; rfl
        by_cases s2 : g.name = Mt.nmI
        · have k2 : (g.name == [105, 110, 100, 101, 120]) = true := beq_iff_eq.2 s2
          have k2' : (g.name != [105, 110, 100, 101, 120]) = false := by rw [bne, k2]; rfl
          by_cases h50 : 50 < n
          · have HQ := Lib.hid (show R = false by rw [RF.out, decide_eq_false (show ¬ src.length ≤ 50 by rw [← Hn.out]; omega)]; simp)
            have h50' : (50 : Int) < n := by omega
            clear s1 s2 h50

            go_wp2_with fail
            go_ret
            exact ⟨by rw [HQ.out]; rfl, BV.out.trans (B1.out.mono BV.out.size)⟩
          · have h50' : ¬ (50 : Int) < n := by omega
            have RF2 := Lib.hid (show R = (szs [f, g] && Mt.okSs id none src) by
              rw [RF.out, decide_eq_true (show src.length ≤ 50 by rw [← Hn.out]; omega)]
              simp [Mt.okFs, Mt.okF, szs, s1, s2])
            clear s1 s2
            go_upto_region 5 with fail
            clear q0 q3 h50' h50
            have MB := Lib.hid (KP.out w1 B1.out)
            go_wp2_with fail
            clear k1 k1' k2 k2' d0 d1 d2 d3 d4 d5 d6 d7
            have B0 : Below w1.heap.size w1 w1 := Below.refl _ _
            go_loopw [85] (fun i' wr => ∃ (i : Nat), i' = .int .i64 i ∧ i ≤ 2 ∧ Hid (szs [f, g] = szs ([f, g].drop i)) ∧ Below w1.heap.size w1 wr) (fun i' _ => 2 - (intOf i').toNat)
            case atStart => exact ⟨0, rfl, by omega, Lib.hid rfl, B0⟩
            case round =>
              clear B0
              obtain ⟨i, rfl, hi, hk, hb⟩ := hrel
              by_cases hlt : i < 2
              · obtain ⟨x, hx⟩ : ∃ x, [f, g][i]? = some x := ⟨[f, g][i]'(by simpa using hlt), List.getElem?_eq_getElem (by simpa using hlt)⟩
                obtain ⟨v0, v1, v2⟩ := flc_at [f, g] i x hx
                have bw := BW.out.trans (hb.mono (by omega))
                have q0 := ((bw.cell (p := ⟨gf, of' + i * 3, none⟩) hgl).trans (HCF.out (i * 3) (by omega))).trans v0
                have q1 := ((bw.cell (p := ⟨gf, of' + (i * 3 + 1), none⟩) hgl).trans (HCF.out (i * 3 + 1) (by omega))).trans v1
                have q2 := ((bw.cell (p := ⟨gf, of' + (i * 3 + 2), none⟩) hgl).trans (HCF.out (i * 3 + 2) (by omega))).trans v2
                rw [← Nat.add_assoc] at q1 q2
                have hil : (i : Int) < 2 := by omega
                have hkk : szs [f, g] = ((decide (0 ≤ x.size) && decide (x.size ≤ 1048576)) && szs ([f, g].drop (i + 1))) := by
                  rw [hk.out]
                  have e : [f, g].drop i = x :: [f, g].drop (i + 1) := by
                    obtain ⟨h1, h2⟩ := List.getElem?_eq_some_iff.1 hx
                    rw [List.drop_eq_getElem_cons h1, h2]
                  rw [e]
                  rfl
                have HKK := Lib.hid hkk
                have hbz := hb.size
                clear hkk hk hx v0 v1 v2 bw
                by_cases z1 : x.size < 0
                · have HQ := Lib.hid (show R = false by rw [RF2.out, HKK.out, decide_eq_false (show ¬ 0 ≤ x.size by omega)]; rfl)
                  go_wp2_with fail
                  go_ret
                  exact ⟨by rw [HQ.out]; rfl, BW.out.trans ((hb.alloc hbz _).mono (by omega))⟩
                · by_cases z2 : 1048576 < x.size
                  · have HQ := Lib.hid (show R = false by rw [RF2.out, HKK.out, decide_eq_false (show ¬ x.size ≤ 1048576 by omega)]; simp)
                    go_wp2_with fail
                    go_ret
                    exact ⟨by rw [HQ.out]; rfl, BW.out.trans ((hb.alloc hbz _).mono (by omega))⟩
                  · have HQ := Lib.hid (show szs [f, g] = szs ([f, g].drop (i + 1)) by rw [HKK.out, decide_eq_true (show 0 ≤ x.size by omega), decide_eq_true (show x.size ≤ 1048576 by omega)]; rfl)
                    go_wp2_with fail
                    exact ⟨⟨i + 1, by go_num, by omega, HQ, hb.alloc hbz _⟩, by simp [intOf]; omega⟩
              · have hil : ¬ (i : Int) < 2 := by omega
                have RF3 := Lib.hid (show R = Mt.okSs id none src by
                  rw [RF2.out, hk.out, show [f, g].drop i = [] from List.drop_eq_nil_of_le (by simp; omega)]
                  rfl)
                obtain ⟨W0, hW0⟩ : ∃ W0, W0 = wr := ⟨_, rfl⟩
                rw [← hW0]
                have hb' : Below w1.heap.size w1 W0 := by rw [hW0]; exact hb
                have bV0 : Below V.heap.size V W0 := B1.out.trans (hb'.mono hz1)
                have BW0 := Lib.hid (BV.out.trans (bV0.mono BV.out.size))
                obtain ⟨c0, c1, c2, c3, c4, c5, c6, c7⟩ := cells8 (KP.out W0 bV0)
                have KP0 := Lib.hid (fun W (b : Below W0.heap.size W0 W) => KP.out W (bV0.trans (b.mono bV0.size)))
                clear hk hb hb' bV0 hW0 c1 c2 c3 c4 c5 c6
                go_upto_region 12 with fail
                go_wp2_with fail
                clear c7
                have B0 : Below W0.heap.size W0 W0 := Below.refl _ _
                go_loopw [5, 101] (fun l' i' wr => ∃ (i : Nat), l' = .string (bs (lastS src i)) ∧ i' = .int .i64 i ∧ i ≤ n ∧ Hid (R = Mt.okSs id (prevS src i) (src.drop i)) ∧ Below W0.heap.size W0 wr) (fun _ i' _ => n - (intOf i').toNat)
                case atStart => exact ⟨0, rfl, rfl, by omega, RF3, B0⟩
                case round =>
                  clear B0
                  obtain ⟨i, rfl, rfl, hi, hk, hb⟩ := hrel
                  by_cases hlt2 : i < n
                  · obtain ⟨rfl, hgl2⟩ := HG.out (by omega)
                    obtain ⟨x, hx⟩ : ∃ x, src[i]? = some x := ⟨src[i]'(by have := Hn.out; omega), List.getElem?_eq_getElem (by have := Hn.out; omega)⟩
                    have bw := BW0.out.trans (hb.mono BW0.out.size)
                    have q0 := ((bw.cell (p := ⟨g5, o5 + i, none⟩) hgl2).trans (HC.out i (by omega))).trans (sc_at src i x hx)
                    have hd : src.drop i = x :: src.drop (i + 1) := by
                      obtain ⟨h1, h2⟩ := List.getElem?_eq_some_iff.1 hx
                      rw [List.drop_eq_getElem_cons h1, h2]
                    have hil2 : (i : Int) < n := by omega
                    obtain ⟨b2, hb2⟩ : ∃ b2, b2 = Mt.isN x := ⟨_, rfl⟩
                    have IDx := Lib.hid (fun W => show Calls Tryd.prog 26 #[.string (bs x)] W (fun e w' => e = .returned (.bool b2) ∧ Below W.heap.size W w') by rw [hb2]; exact rid9_any x W)
                    have hkk := hk.out
                    rw [hd] at hkk
                    have hnx : lastS src (i + 1) = x := by show (src[i]?).getD [] = x; rw [hx]; rfl
                    have hpx : prevS src (i + 1) = some x := hx
                    have hstep : R = (b2 && !decide (x = id) && decide (lastS src i < x) && Mt.okSs id (some x) (src.drop (i + 1))) := by
                      rw [hkk]
                      cases hp : prevS src i with
                      | none =>
                        rw [okSs_none, ← hb2]
                        have hl : lastS src i = [] := by unfold lastS; rw [hp]; rfl
                        rw [hl]
                        exact step_none b2 x id _ fun e => isN_some x (hb2.symm.trans e)
                      | some q =>
                        have hl : lastS src i = q := by unfold lastS; rw [hp]; rfl
                        rw [okSs_some, ← hb2, hl]
                    obtain ⟨la, hla⟩ : ∃ la, la = lastS src i := ⟨_, rfl⟩
                    rw [← hla] at hstep ⊢
                    have hcp : Op.bytesLess x la = decide (x < la) := mless_dec _ _
                    have HST := Lib.hid hstep
                    have HNX := Lib.hid hnx
                    have HPX := Lib.hid hpx
                    clear hkk hk hd hx hb2 hstep hnx hpx bw hla
                    obtain ⟨c0', _, _, _, _, _, _, _⟩ := cells8 (KP0.out wr hb)
                    cases b2 with
                    | false =>
                      have HQ := Lib.hid (show R = false by rw [HST.out]; rfl)
                      go_wp2_with fail
                      refine (IDx.out _).mono ?_
                      rintro e w3 ⟨rfl, b3⟩
                      go_wp2_with fail
                      go_ret
                      exact ⟨by rw [HQ.out]; rfl, BW0.out.trans ((hb.trans (b3.mono hb.size)).mono BW0.out.size)⟩
                    | true =>
                      by_cases t1 : x = id
                      · have HQ := Lib.hid (show R = false by rw [HST.out, decide_eq_true t1]; rfl)
                        have hq : (x == id) = true := beq_iff_eq.2 t1
                        clear t1
                        go_wp2_with fail
                        refine (IDx.out _).mono ?_
                        rintro e w3 ⟨rfl, b3⟩
                        obtain ⟨c0'', _, _, _, _, _, _, _⟩ := cells8 (KP0.out w3 (hb.trans (b3.mono hb.size)))
                        go_wp2_with fail
                        go_ret
                        exact ⟨by rw [HQ.out]; rfl, BW0.out.trans ((hb.trans (b3.mono hb.size)).mono BW0.out.size)⟩
                      · have hq : (x == id) = false := beq_eq_false_iff_ne.2 t1
                        by_cases t2 : la < x
                        · have hnl : ¬ x < la := fun e => bytes_lt_irrefl _ (bytes_lt_trans e t2)
                          have hnq : (x == la) = false := beq_eq_false_iff_ne.2 fun e => bytes_lt_irrefl la (by rw [e] at t2; exact t2)
                          rw [decide_eq_false hnl] at hcp
                          clear hnl
                          have HQ := Lib.hid (show R = Mt.okSs id (prevS src (i + 1)) (src.drop (i + 1)) by rw [HST.out, decide_eq_false t1, decide_eq_true t2, HPX.out]; rfl)
                          clear t1 t2
                          go_wp2_with fail
                          refine (IDx.out _).mono ?_
                          rintro e w3 ⟨rfl, b3⟩
                          obtain ⟨c0'', _, _, _, _, _, _, _⟩ := cells8 (KP0.out w3 (hb.trans (b3.mono hb.size)))
                          go_wp2_with fail
                          exact ⟨⟨i + 1, by rw [HNX.out], by go_num, by omega, HQ, hb.trans (b3.mono hb.size)⟩, by simp [intOf]; omega⟩
                        · have HQ := Lib.hid (show R = false by rw [HST.out, decide_eq_false t2]; simp)
                          by_cases t3 : x = la
                          · have hnq : (x == la) = true := beq_iff_eq.2 t3
                            have hnl : ¬ x < la := fun e => bytes_lt_irrefl la (by rw [t3] at e; exact e)
                            rw [decide_eq_false hnl] at hcp
                            clear t1 t2 t3 hnl
                            go_wp2_with fail
                            refine (IDx.out _).mono ?_
                            rintro e w3 ⟨rfl, b3⟩
                            obtain ⟨c0'', _, _, _, _, _, _, _⟩ := cells8 (KP0.out w3 (hb.trans (b3.mono hb.size)))
                            go_wp2_with fail
                            go_ret
                            exact ⟨by rw [HQ.out]; rfl, BW0.out.trans ((hb.trans (b3.mono hb.size)).mono BW0.out.size)⟩
                          · have hnq : (x == la) = false := beq_eq_false_iff_ne.2 t3
                            have hnl : x < la := (bytes_not_lt t2).elim (fun e => absurd e.symm t3) (fun e => e)
                            rw [decide_eq_true hnl] at hcp
                            clear t1 t2 t3 hnl
                            go_wp2_with fail
                            refine (IDx.out _).mono ?_
                            rintro e w3 ⟨rfl, b3⟩
                            obtain ⟨c0'', _, _, _, _, _, _, _⟩ := cells8 (KP0.out w3 (hb.trans (b3.mono hb.size)))
                            go_wp2_with fail
                            go_ret
                            exact ⟨by rw [HQ.out]; rfl, BW0.out.trans ((hb.trans (b3.mono hb.size)).mono BW0.out.size)⟩
                  · have hil2 : ¬ (i : Int) < n := by omega
                    have HQ := Lib.hid (show R = true by rw [hk.out, List.drop_eq_nil_of_le (by have := Hn.out; omega), okSs_nil])
                    clear hk
                    go_wp2_with fail
                    go_ret
                    exact ⟨by rw [HQ.out]; rfl, BW0.out.trans (hb.mono BW0.out.size)⟩
        · have HQ := Lib.hid (show R = false by rw [RF.out]; simp [Mt.okFs, Mt.okF, s2])
          have k2 : (g.name == [105, 110, 100, 101, 120]) = false := beq_eq_false_iff_ne.2 s2
          have k2' : (g.name != [105, 110, 100, 101, 120]) = true := by rw [bne, k2]; rfl
          clear s1 s2

          go_wp2_with fail
          go_ret
          exact ⟨by rw [HQ.out]; rfl, BV.out.trans (B1.out.mono BV.out.size)⟩
      · have HQ := Lib.hid (show R = false by rw [RF.out]; simp [Mt.okFs, Mt.okF, s1])
        have k1 : (f.name == [99, 104, 117, 110, 107, 115]) = false := beq_eq_false_iff_ne.2 s1
        have k1' : (f.name != [99, 104, 117, 110, 107, 115]) = true := by rw [bne, k1]; rfl
        clear s1

        go_wp2_with fail
        go_ret
        exact ⟨by rw [HQ.out]; rfl, BV.out.trans (B1.out.mono BV.out.size)⟩
    · have HQ := Lib.hid (show R = false by rw [RF.out, okFs_len (by rw [← HN.out]; exact h2)]; rfl)
      have h2' : (N : Int) ≠ 2 := by omega
      have h2'' : ((N : Int) != 2) = true := by simp; omega
      have h2b : ((N : Int) == 2) = false := by simp; omega
      clear h2

      go_wp2_with fail
      go_ret
      exact ⟨by rw [HQ.out]; rfl, BV.out.trans (B1.out.mono BV.out.size)⟩
end Go.Proofs.YtoihkeilofpcjaaDoor
