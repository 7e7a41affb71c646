/- Layer 12: Grow, the walk itself. -/
import Derived.Test.YtefhnjepocbodaaGreatDoorMIY4
namespace Go.Proofs.YtefhnjepocbodaaGreatDoor
open Go.RowKit Go.Lib
set_option linter.unusedVariables false

set_option maxHeartbeats 4000000 in
set_option maxRecDepth 100000 in
theorem grow12_any (a0 : Option Addr) (len0 cap0 : Nat) (zs : List Oi) (w : World) (h : OsR w a0 len0 zs) :
    Calls Tryz.prog 5 #[.slice a0 len0 cap0] w (GrowP w zs) := by
  obtain ⟨iP, hi, hz0, hz1, hz2⟩ := info_parts zc_pair
  have Pz := Lib.hid hz0; have Ps := Lib.hid hz1; have Pb := Lib.hid hz2; have Pi := Lib.hid hi
  clear hz0 hz1 hz2 hi
  obtain ⟨iR, hi, hz0, hz1, hz2⟩ := info_parts zc_rpair
  have Rz := Lib.hid hz0; have Rs := Lib.hid hz1; have Rb := Lib.hid hz2; have Ri := Lib.hid hi
  clear hz0 hz1 hz2 hi
  obtain ⟨iS, hi, hz0, hz1, hz2⟩ := info_parts zc_ser
  have Sz := Lib.hid hz0; have Ss := Lib.hid hz1; have Sb := Lib.hid hz2; have Si := Lib.hid hi
  clear hz0 hz1 hz2 hi
  obtain ⟨hl, hm, hat, hps⟩ := h
  unfold maxLen at hm
  obtain ⟨N, hN⟩ : ∃ N, N = zs.length := ⟨_, rfl⟩
  rw [← hN] at hl
  have HN := Lib.hid hN
  have HA := Lib.hid hat
  have HPS := Lib.hid hps
  have hN1 : N ≤ len0 := by omega
  have hN2 : N ≤ 12 := by omega
  have hN3 : len0 ≤ N ∨ 12 ≤ N := by omega
  have HNEW := Lib.hid (new_ix w)
  clear hl hat hps hN
  have hmm := @run_makeMap Tryz.prog
  go_enter Tryz.func5, Tryz.ntmps5
  go_wp2_with fail
  refine HNEW.out.mono ?_
  rintro e w1 ⟨b, mh, ml, o, rfl, I0, b1⟩
  have G0 := Lib.hid (show Gst w b mh ml zs 0 (.slice (some ⟨w1.heap.size, 0, none⟩) 0 0) (w1.alloc (.cells #[] 34)) from by
    have b2 : Below w1.heap.size w1 (w1.alloc (.cells #[] 34)) := (Below.refl _ _).alloc (Nat.le_refl _) _
    refine ⟨_, [], [], 0, [], 0, o, [], I0.other (Stp.below (T := fun _ => False) b2) (fun _ => id), Grown.nil, ⟨Sl.lit w1 w.heap.size 2 0 #[] _ b1.size (by decide) rfl, fun k hk => ?_, fun q hq => by cases hq⟩, rfl, b1.trans (b2.mono b1.size)⟩
    have h2 : w1.heap.size = k := Option.some.inj hk
    cases e : o k with
    | none => rfl
    | some t => have := (I0.lt k t e).2; omega)
  clear I0 b1 HNEW
  go_wp2_with fail
  go_loopw [5, 6] (fun t' i' wr => ∃ (i : Nat), i' = .int .i64 i ∧ i ≤ N ∧ Hid (Gst w b mh ml zs i t' wr)) (fun _ i' _ => N - (RowKit.intOf i').toNat)
  case atStart => exact ⟨0, rfl, Nat.zero_le _, Lib.hid G0.out⟩
  case round =>
    clear G0
    obtain ⟨W0, rfl⟩ : ∃ W0, W0 = wr := ⟨_, rfl⟩
    obtain ⟨i, rfl, hi, hst⟩ := hrel
    have hbW : Below w.heap.size w W0 := by obtain ⟨_, _, _, _, _, _, _, _, _, _, _, _, B⟩ := hst.out; exact B
    have hwz := hbW.size
    by_cases hlt : i < N
    · obtain ⟨g, off, rfl, hgl, hcell⟩ := HA.out (by omega)
      obtain ⟨z, hz⟩ : ∃ z, zs[i]? = some z := ⟨zs[i]'(by have := HN.out; omega), List.getElem?_eq_getElem (by have := HN.out; omega)⟩
      obtain ⟨c0, c1⟩ := hcell i z hz
      obtain ⟨hzn, hzp⟩ := HPS.out z (List.mem_of_getElem? hz)
      have hz10 : z.ds.length ≤ 10 := by rw [hzp.1]; omega
      have q0 := (hbW.cell (p := ⟨g, off + i * 2, none⟩) hgl).trans c0
      obtain ⟨za, hza⟩ : ∃ za, za = z.a := ⟨_, rfl⟩
      obtain ⟨zn, hzn'⟩ : ∃ zn, zn = z.n := ⟨_, rfl⟩
      obtain ⟨zc, hzc⟩ : ∃ zc, zc = z.c := ⟨_, rfl⟩
      obtain ⟨zst, hzst⟩ : ∃ zst, zst = z.st := ⟨_, rfl⟩
      obtain ⟨FD, hFD⟩ : ∃ FD, FD = f42 z.ds := ⟨_, rfl⟩
      have hFl : FD.length ≤ 10 := by rw [hFD, f42_len]; exact hz10
      have FEW := Lib.hid (few_any za zn zc z.ds W0 (by rw [hzn']; exact hzn) (by rw [hza, hzn']; exact (show PrsAt W0 z.a z.n z.ds from by
        refine ⟨hzp.1, fun h0 => ?_⟩
        obtain ⟨g2, off2, he, hg2, hc2⟩ := hzp.2 h0
        refine ⟨g2, off2, he, Nat.lt_of_lt_of_le hg2 hwz, fun k x hk => ?_⟩
        obtain ⟨d0, d1⟩ := hc2 k x hk
        exact ⟨(hbW.cell (p := ⟨g2, off2 + k * 2, none⟩) hg2).trans d0, (hbW.cell (p := ⟨g2, off2 + k * 2 + 1, none⟩) hg2).trans d1⟩)))
      rw [← hFD] at FEW
      rw [← hza, ← hzn', ← hzc] at q0
      have TLD := Lib.hid (fun v W => told_any v FD W)
      have SRT := Lib.hid (fun v W => rsorted_any v FD W)
      have HC1 := Lib.hid c1
      have HZ := Lib.hid hz
      have HFD := Lib.hid hFD
      have HZST := Lib.hid hzst
      have HZ10 := Lib.hid hz10
      obtain ⟨FL, hFL⟩ : ∃ FL, FL = FD.length := ⟨_, rfl⟩
      have HFL := Lib.hid hFL
      rw [← hFL] at hFl
      have hil : (i : Int) < len0 := by omega
      have hi12 : (i : Int) < 12 := by omega
      clear hz c0 c1 hcell hzn hzp hza hzn' hzc hzst hFD hFL hz10
      go_wp2_with fail
      refine FEW.out.mono ?_
      rintro e w2 ⟨v2, rfl, s2, b2⟩
      rw [← HFL.out] at s2
      obtain ⟨a2, c2, rfl⟩ := s2.slice
      go_wp2_with fail
      refine (TLD.out _ w2 (Rd.of_sl (by rw [← HFL.out]; exact s2)) (by rw [← HFL.out]; omega)).mono ?_
      rintro e w3 ⟨v3, rfl, s3, b3⟩
      rw [← HFL.out] at s3
      obtain ⟨a3, c3, rfl⟩ := s3.slice
      go_wp2_with fail
      refine (SRT.out _ w3 (Rd.of_sl (by rw [← HFL.out]; exact s3)) (by rw [← HFL.out]; omega)).mono ?_
      rintro e w4 ⟨v4, rfl, s4, b4⟩
      rw [sortS_len, ← HFL.out] at s4
      obtain ⟨a4, c4, rfl⟩ := s4.slice
      have B4 : Below W0.heap.size W0 w4 := (b2.trans (b3.mono b2.size)).trans (b4.mono (Nat.le_trans b2.size b3.size))
      obtain ⟨PS, hPS⟩ : ∃ PS, PS = sortS FD := ⟨_, rfl⟩
      rw [← hPS] at s4
      have hPL : PS.length = FL := by rw [hPS, sortS_len, ← HFL.out]
      have S4 := Lib.hid s4
      have HPL := Lib.hid hPL
      have HPSd := Lib.hid hPS
      have HB4 := Lib.hid B4
      clear s2 s3 s4 b2 b3 b4 FEW TLD SRT hPS hPL B4 q0
      go_wp2_with fail
      go_loopw [9, 11, 45] (fun u' v' j' wr => ∃ (j : Nat) (P : List Pr), j' = .int .i64 j ∧ j ≤ FL ∧ Hid (InR w4 w4.heap.size PS j u' v' P wr)) (fun _ _ j' _ => FL - (RowKit.intOf j').toNat)
      case atStart =>
        refine ⟨0, [], rfl, Nat.zero_le _, Lib.hid ⟨rfl, ⟨Sl.nil _ _ _, ?_, fun k hk => by cases hk⟩, ?_, fun k hk => ?_, ((Below.refl _ _).alloc (Nat.le_refl _) _).alloc (by simp) _, Nat.le_refl _⟩⟩
        · have := Sl.lit (w4.alloc (.map #[] 0)) w4.heap.size 2 0 #[] 36 (by simp) (by decide) rfl
          show Sl _ _ _ _ 0 []
          simpa using this
        · exact (SeenM.new (w := w4.alloc (.map #[] 0)) (heap_alloc_new w4 _)).turn (S := fun _ => False) ((Turn.refl _ _).alloc _) id
        · rcases hk with hk | hk
          · cases hk
          · have h2 : w4.heap.size + 1 = k := Option.some.inj hk
            omega
      case round =>
        obtain ⟨W5, rfl⟩ : ∃ W5, W5 = wr := ⟨_, rfl⟩
        obtain ⟨j, P, rfl, hj, hin⟩ := hrel
        by_cases hjk : j < FL
        · obtain ⟨g4, o4, k4, e4, hb4, -, -⟩ := S4.out.somewhere (by omega)
          have hlt4 : g4 < w4.heap.size := by
            have := S4.out
            rw [e4] at this
            exact (this.lt g4 rfl).2
          cases e4
          obtain ⟨x, hx⟩ : ∃ x, PS[j]? = some x := ⟨PS[j]'(by have := HPL.out; omega), List.getElem?_eq_getElem (by have := HPL.out; omega)⟩
          obtain ⟨d0, d1⟩ := prc_sl S4.out j x hx
          have r0 := (hin.out.below.cell (p := ⟨g4, o4 + j * 2, none⟩) hlt4).trans d0
          have r1 := (hin.out.below.cell (p := ⟨g4, o4 + j * 2 + 1, none⟩) hlt4).trans d1
          have hPl : P.length ≤ 10 := by
            have h1 := uniqN_len (PS.take j)
            rw [← hin.out.is, List.length_take] at h1
            omega
          obtain ⟨WA, hWA⟩ : ∃ WA, WA = W5.alloc (.cells #[.string (bs x.n), .string (bs x.v)] 36) := ⟨_, rfl⟩
          have hbx : WA.heap[W5.heap.size]? = some (.cells #[.string (bs x.n), .string (bs x.v)] 36) := by rw [hWA]; exact heap_alloc_new W5 _
          have sA : SeenM w4.heap.size (P.map Pr.n) j WA := by rw [hWA]; exact hin.out.seen.turn (S := fun _ => False) ((Turn.refl _ _).alloc _) id
          have hmlt := hin.out.seen.lt
          obtain ⟨c, W6, hc1, hc2, l1, st, t6, l2, s6⟩ := sA.step x.n
          have hne6 : ¬ W5.heap.size = w4.heap.size := by omega
          have hbx6 : W6.heap[W5.heap.size]? = some (.cells #[.string (bs x.n), .string (bs x.v)] 36) := (t6.block W5.heap.size (by rw [hWA]; simp) hne6).trans hbx
          have k0 : WA.cell? ⟨W5.heap.size, 0, none⟩ = some (.string (bs x.n)) := Lib.cell_of_heap hbx 0
          have k60 : W6.cell? ⟨W5.heap.size, 0, none⟩ = some (.string (bs x.n)) := Lib.cell_of_heap hbx6 0
          have k61 : W6.cell? ⟨W5.heap.size, 1, none⟩ = some (.string (bs x.v)) := Lib.cell_of_heap hbx6 1
          have hji : (j : Int) < FL := by omega
          have zz6 := t6.size
          have HX := Lib.hid hx
          have T6 := Lib.hid (show Turn (fun k => k = w4.heap.size) (W5.alloc (.cells #[.string (bs x.n), .string (bs x.v)] 36)) W6 by rw [← hWA]; exact t6)
          have S6 := Lib.hid s6
          have zz5 : w4.heap.size ≤ W6.heap.size := by have := hin.out.below.size; rw [hWA] at zz6; simp at zz6; omega
          rw [hWA] at k0 l1 st
          clear hbx hbx6 sA hWA s6 t6 d0 d1 zz6 hmlt hne6 hx
          by_cases hm : x.n ∈ P.map Pr.n
          · have hcq : (((c : Int) + 1) == 1) = false := by
              have h0 : c ≠ 0 := fun h => (hc2.1 h) hm
              simp; omega
            have FF := Lib.hid (hin.out.skip HX.out hm T6.out S6.out)
            clear hin hm hc2 S6 T6
            go_wp2_with fail
            exact ⟨⟨j + 1, P, by simp, by omega, Lib.hid FF.out⟩, by simp [RowKit.intOf]; omega⟩
          · have hcq : (((c : Int) + 1) == 1) = true := by
              have h0 : c = 0 := hc2.2 hm
              simp [h0]
            have hin2 := hin.out
            have L9 := Lib.hid ((hin2.two.on (w' := W5.alloc (.cells #[.string (bs x.n), .string (bs x.v)] 36)) ((Below.refl _ _).alloc (Nat.le_refl _) _)).same T6.out.size fun k hk => T6.out.block k (hk.elim (fun e => by have := (hin2.two.l.lt k e).2; simp; omega) (fun e => by have := (hin2.two.r.lt k e).2; simp; omega)) (hin2.mu k hk))
            have NX := Lib.hid (fun o2 o3 w3 w4' u2 v2 e e2 => hin2.next (o2 := o2) (o3 := o3) (w3 := w3) (w4 := w4') (u' := u2) (v' := v2) HX.out hm T6.out S6.out e e2)
            have BOX := Lib.hid (fun (w7 : World) (v9 : Value) (n9 : Nat) (xs9 : List Value) (x9 : Ext w4.heap.size 2 (W6.alloc (.cells #[.string (bs x.n), .string (bs x.v)] 53)) u9 P.length (prc P) w7 v9 n9 xs9) =>
              show w7.cell? ⟨W5.heap.size, 0, none⟩ = some (.string (bs x.n)) ∧ w7.cell? ⟨W5.heap.size, 1, none⟩ = some (.string (bs x.v)) from by
                have hz := T6.out.size
                simp at hz
                have hblk := (x9.grown.block W5.heap.size (by simp; omega) (fun h1 => by have := (hin2.two.l.lt _ h1.symm).2; omega)).trans (Below.heap_alloc W6 _ W5.heap.size (by omega))
                exact ⟨(World.cell?_of_block (w := W6) (a := ⟨W5.heap.size, 0, none⟩) hblk).trans k60, (World.cell?_of_block (w := W6) (a := ⟨W5.heap.size, 1, none⟩) hblk).trans k61⟩)
            have HM := Lib.hid hm
            obtain ⟨M, hM⟩ : ∃ M, M = P.length := ⟨_, rfl⟩
            rw [← hM] at L9 NX hPl BOX
            have HMd := Lib.hid hM
            clear hin hin2 hm hc2 S6 T6 hM
            go_wp2_with (first
              | (at_builtin; refine wpList_append_sl _ rfl (.tmp 59) (.tmp 61) 51 rfl w4.heap.size 53 iP (.agg #[.string ⟨#[]⟩, .string ⟨#[]⟩]) 2 32 Tryz.underlying51 Pi.out Pz.out Ps.out Pb.out rfl (by decide) _ M _ rfl (L9.out.l.alloc _) ⟨W6.heap.size, 0, none⟩ 1 1 [_, _] rfl rfl (two_cells0 _ _ _ _) (by simp [Value.oneCell']) (by unfold maxLen; omega) (by omega) (by simp; omega) ?_; intro v9 w7 x9; obtain ⟨k70, k71⟩ := BOX.out w7 v9 _ _ x9; have X9 := Lib.hid x9; have L7 := Lib.hid (L9.out.mid _ x9 (.cells #[.string (bs x.n), .string (bs x.v)] 36)); have z7 := x9.grown.size; simp at z7; clear x9)
              | (at_builtin; refine wpList_append_sl _ rfl (.tmp 63) (.tmp 65) 32 rfl w4.heap.size 36 iR (.agg #[.string ⟨#[]⟩, .string ⟨#[]⟩]) 2 32 Tryz.underlying32 Ri.out Rz.out Rs.out Rb.out rfl (by decide) _ M _ rfl L7.out ⟨w7.heap.size, 0, none⟩ 1 1 [_, _] rfl rfl (two_cells0 _ _ _ _) (by simp [Value.oneCell']) (by unfold maxLen; omega) (by omega) (by simp; omega) ?_; intro v11 w8 x11; have X11 := Lib.hid x11; clear x11)
              | fail)
            exact ⟨⟨j + 1, P ++ [x], by simp, by omega, Lib.hid (NX.out _ _ _ _ _ _ X9.out X11.out)⟩, by simp [RowKit.intOf]; omega⟩
        · obtain rfl : j = FL := by omega
          have hin2 := hin.out
          have hU : P = tellOf z := by
            rw [hin2.is, ← HPL.out, List.take_length, HPSd.out, HFD.out]; rfl
          have hb5 : Below W0.heap.size W0 W5 := HB4.out.trans (hin2.below.mono HB4.out.size)
          have lU : Sl W5 W0.heap.size 2 u9 P.length (prc P) := hin2.two.l.mono HB4.out.size
          have rU := Lib.hid (hin2.two.r.mono (base' := W0.heap.size) HB4.out.size)
          have ADD := Lib.hid (show Calls Tryz.prog 15 #[.pointer (some ⟨b, 0, none⟩), .int .i64 (((i : Int) * 7 + 3) % 12), u9] W5 _ from gst_add u9 hst.out (by omega) HZ.out hU HZ10.out hb5 lU)
          have hjk2 : ¬ (j : Int) < j := by omega
          clear hin hin2 hU hb5 lU hst S4 HPL HPSd HFD HB4
          go_wp2_with fail
          refine ADD.out.mono ?_
          rintro e w8 ⟨rfl, B8, K8, DR, PU⟩
          have q1 := (B8.cell (p := ⟨g, off + i * 2 + 1, none⟩) hgl).trans HC1.out
          have DRH := Lib.hid DR
          have PUH := Lib.hid PU
          clear DR PU K8 ADD
          cases hst : z.st with
          | false =>
            rw [hst] at q1
            go_wp2_with fail
            refine DRH.out.mono ?_
            rintro e w9 ⟨rfl, hG⟩
            have FF := Lib.hid (hG hst)
            clear hG DRH PUH
            go_wp2_with fail
            exact ⟨⟨i + 1, by simp, by omega, Lib.hid FF.out⟩, by simp [RowKit.intOf]; omega⟩
          | true =>
            rw [hst] at q1
            have rU2 := rU.out
            obtain ⟨qs, sq, hz8, hql, FIN⟩ := PUH.out hst _ rU2
            obtain ⟨a11, c11, e11⟩ := rU2.slice
            obtain ⟨M, hM⟩ : ∃ M, M = P.length := ⟨_, rfl⟩
            rw [← hM] at e11
            subst e11
            clear rU2 hM
            have SQ := Lib.hid sq
            have FN := Lib.hid FIN
            obtain ⟨Q, hQ⟩ : ∃ Q, Q = qs.length := ⟨_, rfl⟩
            rw [← hQ] at SQ FN hql
            clear sq FIN hQ PUH DRH rU
            go_wp2_with (first
              | (at_builtin; refine wpList_append_sl _ rfl (.tmp 82) (.tmp 86) 25 rfl w.heap.size 34 iS (.agg #[.int .i64 0, .slice none 0 0]) 2 32 Tryz.underlying25 Si.out Sz.out Ss.out Sb.out rfl (by decide) _ Q _ rfl (SQ.out.alloc _) ⟨w8.heap.size, 0, none⟩ 1 1 [_, _] rfl rfl (two_cells0 _ _ _ _) (by simp [Value.oneCell']) (by unfold maxLen; omega) (by omega) (by simp; omega) ?_; intro v5 w9 x5; have FF := Lib.hid (FN.out _ w9 v5 x5); clear x5)
              | fail)
            exact ⟨⟨i + 1, by simp, by omega, Lib.hid FF.out⟩, by simp [RowKit.intOf]; omega⟩
    · obtain rfl : i = N := by omega
      have hil : ¬ (i : Int) < len0 ∨ ¬ (i : Int) < 12 := by omega
      have FF := Lib.hid (show Gst w b mh ml zs zs.length u5 W0 by have := hst.out; rw [HN.out] at this; exact this)
      by_cases hlen : (i : Int) < len0
      · have h12 : ¬ (i : Int) < 12 := by omega
        clear hil hst
        go_wp2_with fail
        go_ret2
        exact ⟨b, mh, ml, _, rfl, FF.out⟩
      · clear hil hst
        go_wp2_with fail
        go_ret2
        exact ⟨b, mh, ml, _, rfl, FF.out⟩
end Go.Proofs.YtefhnjepocbodaaGreatDoor
