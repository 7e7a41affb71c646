/- Layer 6: the document's Take, walked; the statement LabelReads. -/
import Derived.Test.YtmgnmppdeiflbaaDoorLX
import Derived.Test.YtmgnmppdeiflbaaDoorLK
import Derived.Test.YtmgnmppdeiflbaaDoorLV
namespace Go.Proofs.YtmgnmppdeiflbaaDoor
open Go.RowKit Go.Lib

theorem rtakeT_is {l a r : List UInt8} {f : Nat} (h : Leb.takeT l 40 = (a, r, f)) (w : World) (hs : l.length ≤ 1000000) :
    Calls Tryd.prog 42 #[.string (bs l), .int .i64 40] w fun e w' => e = .returned (.tuple #[.string (bs a), .string (bs r), .int .i64 f]) ∧ ∃ n, w' = w.drewN n := by
  have := rtakeT_any (bs l) 40 w (by rw [bs_size]; unfold maxLen; omega) (by decide) (by decide)
  rw [bs_list, h] at this
  exact this

theorem TookP.no {w w' : World} {s : List UInt8} {e : Ending} {f : Nat} (hb : Below w.heap.size w w') (he : e = .returned (.tuple #[.slice none 0 0, .string (bs []), .int .i64 f])) (h : tkS s = ([], [], f)) (h0 : f ≠ 0) : TookP w (tkS s) e w' := by
  rw [h]
  exact ⟨_, he, hb, fun _ => rfl, fun h => absurd h h0⟩

set_option maxHeartbeats 20000000 in
set_option maxRecDepth 100000 in
theorem rtake06_any (s : List UInt8) (w : World) (hl : s.length ≤ 1000000) : Calls Tryd.prog 24 #[.string (bs s)] w (TookP w (tkS s)) := by
  obtain ⟨i0, hi, hz0, hz1, hz2⟩ := info_parts zc_rpair
  have Hz := Lib.hid hz0; have Hs := Lib.hid hz1; have Hb := Lib.hid hz2; have Hi := Lib.hid hi
  clear hz0 hz1 hz2 hi
  obtain ⟨⟨u, r, er⟩, hM⟩ : ∃ p, Leb.takeM s 8 = p := ⟨_, rfl⟩
  obtain ⟨-, -, m3, m4, m5⟩ := Leb.takeM_small hM (by omega)
  have HM := Lib.hid (fun W => rtakeM_is (s := bs s) (most := 8) (u := u) (r := r) (er := er) (by rw [bs_list]; exact hM) W (by rw [bs_size]; unfold maxLen; omega) (by decide) (by decide))
  have HB0 := Lib.hid (Below.refl w.heap.size w)
  by_cases he : er = 0
  · subst he
    have hu : u ≤ 8 := by have := m4 rfl; omega
    have HK := Lib.hid (show tkS s = if (glue [] (tkN u r)).2.2 ≠ 0 then ([], [], (glue [] (tkN u r)).2.2) else if chk (glue [] (tkN u r)).1 = true then glue [] (tkN u r) else ([], [], 3) by unfold tkS; rw [hM]; simp)
    have hr : r.length ≤ 1000000 := by omega
    clear hM m3 m4 m5 hl
    go_enter Tryd.func24, Tryd.ntmps24
    go_wp2_with fail
    refine (HM.out _).mono ?_
    rintro e w1 ⟨rfl, k1, rfl⟩
    have BD := Lib.hid (below_draw HB0.out k1)
    have bdz := BD.out.size
    generalize w.drewN k1 = W1 at *
    go_wp2_with fail
    go_loopw [0, 7, 8] (fun s' o' i' wr => ∃ (i og oo oc : Nat) (ds : List Pr) (l : List UInt8), i' = .int .i64 i ∧ i ≤ u ∧ s' = .string (bs l) ∧ l.length ≤ 1000000 ∧ o' = .slice (some ⟨og, oo, none⟩) i oc ∧ Sl wr W1.heap.size 2 (.slice (some ⟨og, oo, none⟩) i oc) i (prc ds) ∧ Below W1.heap.size W1 wr ∧ Hid (ds.length = i) ∧ Hid (glue [] (tkN u r) = glue ds (tkN (u - i) l))) (fun _ _ i' _ => u - (intOf i').toNat)
    case atStart => exact ⟨0, _, _, _, [], r, rfl, by omega, rfl, hr, rfl, Sl.lit W1 W1.heap.size 2 0 #[] _ (Nat.le_refl _) (by decide) rfl, (Below.refl _ _).alloc (Nat.le_refl _) _, rfl, rfl⟩
    case round =>
      obtain ⟨W0, rfl⟩ : ∃ W0, W0 = wr := ⟨_, rfl⟩
      obtain ⟨i, og, oo, oc, ds, l, rfl, hi, rfl, hll, rfl, hs, hb, hdl, hgl⟩ := hrel
      have HS := Lib.hid hs; have HB := Lib.hid hb; have HDL := Lib.hid hdl.out; have HGL := Lib.hid hgl.out
      have hbz := hb.size
      clear hs hb hdl hgl
      by_cases hlt : i < u
      · have d1 : decide (i < u) = true := by simp; omega
        obtain ⟨⟨a, r1, f1⟩, h1⟩ : ∃ p, Leb.takeT l 40 = p := ⟨_, rfl⟩
        have hl1 : r1.length ≤ l.length := by have := takeT_left l 40; rw [h1] at this; exact this
        have T1 := Lib.hid (fun W => rtakeT_is h1 W hll)
        by_cases hf1 : f1 = 0
        · subst hf1
          obtain ⟨⟨b, r2, f2⟩, h2⟩ : ∃ p, Leb.takeT r1 40 = p := ⟨_, rfl⟩
          have hl2 : r2.length ≤ r1.length := by have := takeT_left r1 40; rw [h2] at this; exact this
          have T2 := Lib.hid (fun W => rtakeT_is h2 W (by omega))
          have htp : tkP l = if f2 ≠ 0 then (⟨[], []⟩, [], f2) else (⟨a, b⟩, r2, 0) := by unfold tkP; rw [h1]; simp only; rw [if_neg (by simp), h2]
          by_cases hf2 : f2 = 0
          · subst hf2
            rw [if_neg (by simp)] at htp
            have HGN := Lib.hid (show glue [] (tkN u r) = glue (ds ++ [⟨a, b⟩]) (tkN (u - (i + 1)) r2) by rw [HGL.out, show u - i = (u - (i + 1)) + 1 by omega]; exact glue_step ds _ l r2 ⟨a, b⟩ htp)
            clear htp h1 h2
            go_wp2_with fail
            refine (T1.out _).mono ?_
            rintro e _ ⟨rfl, n1, rfl⟩
            go_wp2_with fail
            refine (T2.out _).mono ?_
            rintro e _ ⟨rfl, n2, rfl⟩
            have BE := Lib.hid (below_draw (Below.refl W0.heap.size W0) (n1 + n2))
            have SE := Lib.hid (HS.out.on BE.out)
            have BF := Lib.hid (HB.out.trans (BE.out.mono hbz))
            have zF := BF.out.size
            simp only [World.drewN_drewN] at *
            generalize W0.drewN (n1 + n2) = W2 at *
            go_wp2_with (at_builtin; go_loud (refine wpList_append_sl _ rfl _ _ 29 rfl W1.heap.size 54 i0 (.agg #[.string ⟨#[]⟩, .string ⟨#[]⟩]) 2 32 Tryd.underlying29 Hi.out Hz.out Hs.out Hb.out rfl (by decide) _ i _ rfl (SE.out.alloc _) ⟨W2.heap.size, 0, none⟩ 1 1 [_, _] rfl rfl (two_cells0 _ _ _ _) (by simp [Value.oneCell']) (by unfold maxLen; omega) (by omega) (by simp; omega) ?_; intro v5 w5 x5; obtain ⟨g5, o5, c5, rfl, -⟩ := x5.now.somewhere (by omega); have bb5 := Lib.hid ((BF.out.alloc zF _).trans (x5.below (Nat.le_refl _) (by simp; omega))); have X5 := Lib.hid x5; clear x5))
            exact ⟨⟨i + 1, g5, o5, c5, ds ++ [⟨a, b⟩], r2, by simp, by omega, rfl, by omega, rfl, by rw [prc_app]; exact X5.out.now, bb5.out, by show _ = _; rw [List.length_append, HDL.out]; rfl, HGN⟩, by simp [intOf]; omega⟩
          · rw [if_pos hf2] at htp
            have HGN := Lib.hid (show glue [] (tkN u r) = ([], [], f2) by rw [HGL.out, show u - i = (u - (i + 1)) + 1 by omega]; exact glue_bad ds _ l [] _ f2 htp hf2)
            have HTS := Lib.hid (show tkS s = ([], [], f2) by rw [HK.out, HGN.out]; simp [hf2])
            have d2 : ((f2 : Int) != 0) = true := by simp; omega
            clear htp h1 h2
            go_wp2_with fail
            refine (T1.out _).mono ?_
            rintro e _ ⟨rfl, n1, rfl⟩
            go_wp2_with fail
            refine (T2.out _).mono ?_
            rintro e _ ⟨rfl, n2, rfl⟩
            go_wp2_with fail
            go_ret3
            exact TookP.no (BD.out.trans ((below_draw HB.out (n1 + n2)).mono bdz)) rfl HTS.out hf2
        · have htp : tkP l = (⟨[], []⟩, [], f1) := by unfold tkP; rw [h1]; simp only; rw [if_pos hf1]
          have HGN := Lib.hid (show glue [] (tkN u r) = ([], [], f1) by rw [HGL.out, show u - i = (u - (i + 1)) + 1 by omega]; exact glue_bad ds _ l [] _ f1 htp hf1)
          have HTS := Lib.hid (show tkS s = ([], [], f1) by rw [HK.out, HGN.out]; simp [hf1])
          have d2 : ((f1 : Int) != 0) = true := by simp; omega
          clear htp h1
          go_wp2_with fail
          refine (T1.out _).mono ?_
          rintro e _ ⟨rfl, n1, rfl⟩
          go_wp2_with fail
          go_ret3
          exact TookP.no (BD.out.trans ((below_draw HB.out n1).mono bdz)) rfl HTS.out hf1
      · have hiu : i = u := by omega
        have d1 : decide (i < u) = false := by simp; omega
        have HGE := Lib.hid (show glue [] (tkN u r) = (ds, l, 0) by rw [HGL.out, hiu, Nat.sub_self]; exact glue_end ds l)
        obtain ⟨c, hc⟩ : ∃ c, c = chk ds := ⟨_, rfl⟩
        have HTS := Lib.hid (show tkS s = if c = true then (ds, l, 0) else ([], [], 3) by rw [HK.out, HGE.out, hc]; simp)
        have HSD := Lib.hid (show Sl W0 W1.heap.size 2 (.slice (some ⟨og, oo, none⟩) i oc) ds.length (prc ds) by rw [HDL.out]; exact HS.out)
        have RC := Lib.hid (show Calls Tryd.prog 11 #[.slice (some ⟨og, oo, none⟩) i oc] W0 (fun e w' => e = .returned (.bool c) ∧ Below W0.heap.size W0 w') by rw [hc]; exact rcheck_any _ ds W0 (Rd.of_sl HSD.out) (by rw [HDL.out]; omega))
        clear hc hiu
        go_wp2_with fail
        refine RC.out.mono ?_
        rintro e w5 ⟨rfl, b5⟩
        have B5 := Lib.hid (BD.out.trans ((HB.out.trans (b5.mono hbz)).mono bdz))
        have S5 := Lib.hid ((HSD.out.on b5).mono (base' := w.heap.size) bdz)
        clear b5
        cases c
        · go_wp2_with fail
          go_ret3
          exact TookP.no B5.out rfl HTS.out (by decide)
        · go_wp2_with fail
          go_ret3
          rw [HTS.out]
          exact ⟨_, rfl, B5.out, fun h => absurd rfl h, fun _ => S5.out⟩
  · have hu0 : u = 0 := (m5 he).1
    have d2 : ((er : Int) != 0) = true := by simp; omega
    have HTS := Lib.hid (show tkS s = ([], [], er) by unfold tkS; rw [hM]; simp [he])
    subst hu0
    clear hM m3 m4 m5 hl
    go_enter Tryd.func24, Tryd.ntmps24
    go_wp2_with fail
    refine (HM.out _).mono ?_
    rintro e w1 ⟨rfl, k1, rfl⟩
    go_wp2_with fail
    go_loopw [8] (fun i' wr => i' = .int .i64 0 ∧ wr = (w.drewN k1).alloc (.cells #[] 54)) (fun _ _ => 0)
    case atStart => exact ⟨rfl, by first | rfl | simp⟩
    case round =>
      obtain ⟨rfl, rfl⟩ := hrel
      go_wp2_with fail
      go_ret3
      exact TookP.no ((below_draw HB0.out k1).alloc (by simp) _) rfl HTS.out he

theorem rd_none (w : World) : Rd w 2 (.slice none 0 0) ([] : List Pr).length (prc []) := ⟨rfl, none, 0, 0, 0, rfl, fun h => absurd h (by simp), fun j hj => absurd hj (by simp)⟩
theorem chk_len8 {l : List Pr} (h : chk l = true) : l.length ≤ 8 := (chk_parts h).2.1
theorem tkS_len (s : List UInt8) : (tkS s).1.length ≤ 8 := by
  unfold tkS
  split
  · simp
  · split
    · simp
    · split
      · rename_i h3; exact chk_len8 h3
      · simp
theorem took_same {s : List UInt8} {w1 w2 wb wb2 : World} {v v' : Value} (b : Below w1.heap.size w1 w2) (h1 : ((tkS s).2.2 ≠ 0 → v = .slice none 0 0)) (h2 : (tkS s).2.2 = 0 → Sl w1 wb.heap.size 2 v (tkS s).1.length (prc (tkS s).1))
    (k1 : ((tkS s).2.2 ≠ 0 → v' = .slice none 0 0)) (k2 : (tkS s).2.2 = 0 → Sl w2 wb2.heap.size 2 v' (tkS s).1.length (prc (tkS s).1)) :
    ∃ L : List Pr, L.length ≤ 8 ∧ Rd w2 2 v L.length (prc L) ∧ Rd w2 2 v' L.length (prc L) := by
  by_cases h : (tkS s).2.2 = 0
  · exact ⟨_, tkS_len s, (Rd.of_sl (h2 h)).on b, Rd.of_sl (k2 h)⟩
  · rw [h1 h, k1 h]
    exact ⟨[], by simp, rd_none _, rd_none _⟩
theorem pars_same {s : List UInt8} {w1 w2 wb wb2 : World} {v v' : Value} {er er' : Int} (b : Below w1.heap.size w1 w2)
    (h : match pairsL (parts 44 s) with
      | none => v = .slice none 0 0 ∧ er = 3
      | some ds => if chk (sortP ds) = true then er = 0 ∧ Sl w1 wb.heap.size 2 v (sortP ds).length (prc (sortP ds)) else v = .slice none 0 0 ∧ er = 12)
    (k : match pairsL (parts 44 s) with
      | none => v' = .slice none 0 0 ∧ er' = 3
      | some ds => if chk (sortS ds) = true then er' = 0 ∧ Sl w2 wb2.heap.size 2 v' (sortS ds).length (prc (sortS ds)) else v' = .slice none 0 0 ∧ er' = 12) :
    er = er' ∧ ∃ L : List Pr, L.length ≤ 8 ∧ Rd w2 2 v L.length (prc L) ∧ Rd w2 2 v' L.length (prc L) := by
  cases hp : pairsL (parts 44 s) with
  | none =>
    rw [hp] at h k
    obtain ⟨rfl, rfl⟩ := h
    obtain ⟨rfl, rfl⟩ := k
    exact ⟨rfl, [], by simp, rd_none _, rd_none _⟩
  | some ds =>
    rw [hp] at h k
    simp only at h k
    rw [chk_sortS] at k
    by_cases hc : chk (sortP ds) = true
    · rw [if_pos hc] at h k
      obtain ⟨rfl, s1⟩ := h
      obtain ⟨rfl, s2⟩ := k
      have e : sortS ds = sortP ds := sortS_diff ds ((chk_diff hc).perm (sortP_perm ds))
      rw [e] at s2
      exact ⟨rfl, sortP ds, chk_len8 hc, (Rd.of_sl s1).on b, Rd.of_sl s2⟩
    · rw [if_neg hc] at h k
      obtain ⟨rfl, rfl⟩ := h
      obtain ⟨rfl, rfl⟩ := k
      exact ⟨rfl, [], by simp, rd_none _, rd_none _⟩

set_option maxHeartbeats 4000000 in
set_option maxRecDepth 100000 in
theorem lreads_any (a0 a1 : ByteArray) (w : World) :
    Calls Tryd.prog 4 #[.string a0, .string a1] w fun e w' => e = .returned (.bool true) ∧ Below w.heap.size w w' := by
  obtain ⟨t, ht, ht3⟩ := cut_list a0 300
  obtain ⟨s, hs, hs3⟩ := cut_list a1 300
  have CT := Lib.hid (fun W => cut_is a0 t 300 300 rfl ht W)
  have CS := Lib.hid (fun W => cut_is a1 s 300 300 rfl hs W)
  have PP := Lib.hid (fun W => parse_lb t W (by omega))
  have RP := Lib.hid (fun W => rparse_any t W (by omega))
  have PT := Lib.hid (fun W => take_lb s W (by omega))
  have RT := Lib.hid (fun W => rtake06_any s W (by omega))
  have B0 := Lib.hid (Below.refl w.heap.size w)
  obtain ⟨T, hT⟩ : ∃ T, T = bs t := ⟨_, rfl⟩
  obtain ⟨S, hS⟩ : ∃ S, S = bs s := ⟨_, rfl⟩
  rw [← hT] at CT PP RP
  rw [← hS] at CS PT RT
  obtain ⟨R, hR⟩ : ∃ R, R = bs (tkS s).2.1 := ⟨_, rfl⟩
  obtain ⟨er2, her2⟩ : ∃ e, e = (tkS s).2.2 := ⟨_, rfl⟩
  clear ht hs ht3 hs3 hT hS
  go_enter Tryd.func4, Tryd.ntmps4
  go_wp2_with fail
  refine (CT.out _).mono ?_
  rintro e _ ⟨rfl, rfl⟩
  go_wp2_with fail
  refine (CS.out _).mono ?_
  rintro e _ ⟨rfl, rfl⟩
  go_wp2_with fail
  refine (PP.out _).mono ?_
  rintro e w1 ⟨v1, er, rfl, b1, h1⟩
  have B1 := Lib.hid b1
  have H1 := Lib.hid h1
  clear b1 h1
  go_wp2_with fail
  refine (RP.out _).mono ?_
  rintro e w2 ⟨v2, er', rfl, b2, h2⟩
  obtain ⟨hee, L, hL, r1, r2⟩ := pars_same b2 H1.out h2
  subst hee
  have B2 := Lib.hid (below_step B1.out b2)
  have R1 := Lib.hid r1; have R2 := Lib.hid r2
  clear b2 h2 r1 r2 H1
  go_wp2_with fail
  refine (PT.out _).mono ?_
  rintro e w3 ⟨v3, rfl, b3, h31, h32⟩
  have B3 := Lib.hid (below_step B2.out b3)
  have R31 := Lib.hid (R1.out.on b3); have R32 := Lib.hid (R2.out.on b3)
  have H31 := Lib.hid h31; have H32 := Lib.hid h32
  rw [← hR, ← her2]
  clear b3 h31 h32
  go_wp2_with fail
  refine (RT.out _).mono ?_
  rintro e w4 ⟨v4, rfl, b4, h41, h42⟩
  obtain ⟨M, hM, m1, m2⟩ := took_same b4 H31.out H32.out h41 h42
  have B4 := Lib.hid (below_step B3.out b4)
  have R41 := Lib.hid (R31.out.on b4); have R42 := Lib.hid (R32.out.on b4)
  have M1 := Lib.hid m1; have M2 := Lib.hid m2
  rw [← hR, ← her2]
  clear b4 h41 h42 m1 m2 H31 H32 hR her2
  go_wp2_with fail
  refine (lawake_any _).mono ?_
  rintro e w5 ⟨rfl, b5⟩
  have B5 := Lib.hid (below_step B4.out b5)
  have R51 := Lib.hid (R41.out.on b5); have R52 := Lib.hid (R42.out.on b5); have M51 := Lib.hid (M1.out.on b5); have M52 := Lib.hid (M2.out.on b5)
  clear b5
  go_wp2_with fail
  refine (is_same v1 v2 L _ R51.out R52.out (by omega)).mono ?_
  rintro e w6 ⟨rfl, b6⟩
  have B6 := Lib.hid (below_step B5.out b6)
  have M61 := Lib.hid (M51.out.on b6); have M62 := Lib.hid (M52.out.on b6)
  clear b6
  go_wp2_with fail
  refine (is_same v3 v4 M _ M61.out M62.out (by omega)).mono ?_
  rintro e w7 ⟨rfl, b7⟩
  have B7 := Lib.hid (below_step B6.out b7)
  clear b7
  go_wp2_with fail
  go_ret
  exact ⟨by simp, B7.out⟩
end Go.Proofs.YtmgnmppdeiflbaaDoor
