/- Layer 9: the statement MetaBack, walked. -/
import Derived.Test.YtkhpemfkbdiloaaDoorMF
import Derived.Test.YtkhpemfkbdiloaaDoorMN
import Derived.Test.YtkhpemfkbdiloaaDoorMR
import Derived.Deep.RegionHeld3
namespace Go.Proofs.YtkhpemfkbdiloaaDoor
open Go.RowKit Go.Lib

theorem meC_fld (m : Mt.Me) (t : List UInt8) (h : Mt.chk m = true) (hs : ∀ f ∈ m.files, f.sum < 4294967296) : Mt.meC (Mt.fld m ++ t, 0) = (m, (t, 0)) := by
  unfold Mt.meC
  rw [Mt.me_fld m t h hs]
  simp only [h]
  unfold Mt.dem
  simp

/-- What the boxes of three metas say. -/
def Box3 (b1 b2 b3 : Nat) (o1 o2 o3 : Obj) (W : World) : Prop := W.heap[b1]? = some o1 ∧ W.heap[b2]? = some o2 ∧ W.heap[b3]? = some o3

set_option maxHeartbeats 4000000 in
set_option maxRecDepth 100000 in
theorem backL_any (va : List UInt8) (mn mx lv se sa : Int) (af : Option Addr) (nf kf : Nat) (a7 : Option Addr) (n7 k7 : Nat) (tick seq : Int) (s : ByteArray) (w : World)
    (hn7 : n7 ≤ maxLen) (hva : va.length ≤ maxLen) (hP : PartsAt w) :
    Calls Tryd.prog 3 #[.agg #[.string (bs va), .int .i64 mn, .int .i64 mx, .int .i64 lv, .int .i64 se, .int .i64 sa, .slice af nf kf, .slice a7 n7 k7], .int .i64 tick, .int .i64 seq, .string s] w fun e w' => e = .returned (.bool true) ∧ Below w.heap.size w w' := by
  have hT := bs_toList
  have hA := bs_append
  obtain ⟨l, hl, hl20⟩ := cut_list s 20
  have HL := Lib.hid hl
  obtain ⟨x, hx⟩ : ∃ x, x = Mt.mdM va mn mx lv se sa n7 tick seq := ⟨_, rfl⟩
  have hchk : Mt.chk x = true := by rw [hx]; exact Mt.chk_mdM _ _ _ _ _ _ _ _ _
  have hsum : ∀ f ∈ x.files, f.sum < 4294967296 := by rw [hx]; exact Mt.sum_mdM _ _ _ _ _ _ _ _ _
  have hsm : x.files.length ≤ 1000000 ∧ x.src.length ≤ 1000000 := by rw [hx]; exact md_small _ _ _ _ _ _ _ _ _
  have hid : x.id.length = 16 := by rw [hx]; exact Idn.nam_len _ _
  have hisN : Mt.isN x.id = true := by
    have h := hchk
    unfold Mt.chk at h
    simp only [Bool.and_eq_true] at h
    exact h.1.1.1.1
  have hfl := Mt.fld_len x hchk
  have MA := Lib.hid (fun W => show Calls Tryd.prog 4 #[.agg #[.string (bs va), .int .i64 mn, .int .i64 mx, .int .i64 lv, .int .i64 se, .int .i64 sa, .slice af nf kf, .slice a7 n7 k7], .int .i64 tick, .int .i64 seq] W (MadeM W x) by
    rw [hx]; exact made_any va mn mx lv se sa (.slice af nf kf) a7 n7 k7 tick seq W hva hn7)
  obtain ⟨T, hTd⟩ : ∃ T, T = Fr.rec 1 (Mt.fld x) := ⟨_, rfl⟩
  have hTl : T.length ≤ 100000 := by have := (Fr.rec_len 1 (Mt.fld x)).2; rw [hTd]; omega
  have EN := Lib.hid (fun vf vs W hW => encode_any x vf vs W hW hchk hsum)
  have DE := Lib.hid (fun W hW => show Calls Tryd.prog 6 #[.string (bs T)] W (DecO W x) from (decode_any T W (by omega) hW x [] 0 (by rw [hTd]; exact Mt.dcd_fld x hchk hsum)).mono fun e w' h => by
    unfold DecP at h; rw [if_pos rfl] at h; exact h)
  have PU := Lib.hid (fun vf vs W hW => put_any x vf vs W hW hchk hsum)
  obtain ⟨D, hD⟩ : ∃ D, D = Mt.fld x := ⟨_, rfl⟩
  have TK := Lib.hid (fun W hW => take9_ok (D ++ l) W (by rw [List.length_append, hD]; omega) hW x l (by rw [hD]; exact meC_fld x l hchk hsum))
  obtain ⟨q1, hq1⟩ : ∃ q : Nat, tick % 65536 = q := ⟨(tick % 65536).toNat, by omega⟩
  have k1 : bits .and .i64 tick 65535 = q1 := by have := i64_mask tick 16 (by decide); rw [← hq1]; exact this
  have q1b : q1 ≤ 65535 := by omega
  obtain ⟨K, hK⟩ : ∃ K, K = Fr.rec 2 (Mt.mkB x.id q1) := ⟨_, rfl⟩
  have hKl : K.length ≤ 100000 := by
    have h2 := (Leb.encU_len q1).2
    have h3 := (Leb.encU_len x.id.length).2
    have := (Fr.rec_len 2 (Mt.mkB x.id q1)).2
    have : (Mt.mkB x.id q1).length ≤ 100 := by rw [Mt.mkB, List.length_append, Leb.encT, List.length_append]; omega
    rw [hK]; omega
  have EM := Lib.hid (fun W => encMark_any x.id q1 W (by omega) (by omega))
  have DM := Lib.hid (fun W => show Calls Tryd.prog 10 #[.string (bs K)] W (fun e w' => e = .returned (.tuple #[.string (bs x.id), .int .i64 q1, .int .i64 0]) ∧ Below W.heap.size W w') by
    have := decMark_any K W (by omega)
    rw [hK, Mt.dmk_mk x.id q1 hisN (by omega)] at this
    rw [hK]
    exact this)
  have CK := Lib.hid (fun vf vs W hM hW => show Calls Tryd.prog 13 #[meV x vf vs] W (fun e w' => e = .returned (.int .i64 0) ∧ Below W.heap.size W w') by
    have := check_any x vf vs W hM hW
    rw [hchk] at this
    exact this)
  have TD := Lib.hid (fun vf vs W hW => told9_any x vf vs W hW)
  have SA := Lib.hid (fun vf vs vf' vs' W h h' => same9_refl x vf vs vf' vs' W h h')
  rw [← hD] at EN PU hTd
  rw [← hTd] at EN
  rw [← hK] at EM
  rw [← hD] at hfl
  have hDz := bs_size D
  have hlz := bs_size l
  have HSM := Lib.hid hsm
  have HP := Lib.hid hP
  have j1 : ¬ maxLen < (bs D).size + (bs l).size := by unfold maxLen; omega
  clear hl hx hchk hsum hsm hid hisN hTd hTl hD hq1 hK hKl hP hva hn7 hDz hlz hfl hl20
  unfold meV at EN PU CK TD
  go_enter Tryd.func3, Tryd.ntmps3
  go_wp2_with fail
  refine (MA.out _).mono ?_
  rintro e w1 ⟨vf, vs, rfl, sf, ss, b1⟩
  have MR := Lib.hid (show MeR w1 x vf vs from ⟨Rd.of_sl sf, Rd.of_sl ss, HSM.out⟩)
  obtain ⟨af1, kf1, rfl⟩ := sf.slice
  obtain ⟨av1, kv1, rfl⟩ := ss.slice
  have BW1 := Lib.hid (((Below.refl w.heap.size w).alloc (Nat.le_refl _) _).trans (b1.mono (by simp)))
  clear sf ss b1
  unfold meV
  go_wp2_with fail
  refine (cut_is s l 20 20 rfl HL.out _).mono ?_
  rintro e w0 ⟨rfl, rfl⟩
  obtain ⟨X, hX⟩ : ∃ X : Obj, X = .cells #[.string (bs x.id), .int .i64 x.mn, .int .i64 x.mx, .int .i64 x.lv, .int .i64 x.se, .int .i64 x.sa, .slice af1 x.files.length kf1, .slice av1 x.src.length kv1] 25 := ⟨_, rfl⟩
  have HX := Lib.hid hX
  have hx1 := heap_alloc_new w1 X
  have L1 := Lib.hid ((Below.refl w1.heap.size w1).alloc (Nat.le_refl _) X)
  rw [hX] at hx1 L1
  clear hX
  go_wp2_with fail
  refine (EN.out _ _ _ (MR.out.on L1.out)).mono ?_
  rintro e w2 ⟨rfl, b2⟩
  have HX2 := Lib.hid ((b2.block w1.heap.size (by simp)).trans hx1)
  have L2 := Lib.hid (L1.out.trans (b2.mono (by simp)))
  clear b2 hx1 L1
  go_wp2_with fail
  refine (DE.out _ (HP.out.below (BW1.out.trans (L2.out.mono BW1.out.size)))).mono ?_
  rintro e w3 ⟨vg, vt, rfl, sg, st, b3⟩
  have MG := Lib.hid (show MeR w3 x vg vt from ⟨Rd.of_sl sg, Rd.of_sl st, HSM.out⟩)
  obtain ⟨ag1, kg1, rfl⟩ := sg.slice
  obtain ⟨at1, kt1, rfl⟩ := st.slice
  have z2 : w1.heap.size < w2.heap.size := (Array.getElem?_eq_some_iff.1 HX2.out).1
  have HX3 := Lib.hid ((b3.block w1.heap.size z2).trans HX2.out)
  have L3 := Lib.hid (L2.out.trans (b3.mono L2.out.size))
  have z3 : w1.heap.size < w3.heap.size := (Array.getElem?_eq_some_iff.1 HX3.out).1
  obtain ⟨p0, p1, p2, p3, p4, p5, p6, p7⟩ := cells8 HX3.out
  clear sg st b3 HX2 L2
  unfold meV
  have L3a := Lib.hid (fun X : Obj => L3.out.alloc (Nat.le_of_lt z3) X)
  go_wp2_with fail
  refine (PU.out _ _ _ (MR.out.on (L3a.out _))).mono ?_
  rintro e w4 ⟨a4, c4, rfl, s4, b4⟩
  have cv4 := text_conv s4
  obtain ⟨Y, hY⟩ : ∃ Y : Obj, Y = .cells #[.string (bs x.id), .int .i64 x.mn, .int .i64 x.mx, .int .i64 x.lv, .int .i64 x.se, .int .i64 x.sa, .slice ag1 x.files.length kg1, .slice at1 x.src.length kt1] 25 := ⟨_, rfl⟩
  rw [← hY] at b4
  have hs3 : (w3.alloc Y).heap.size = w3.heap.size + 1 := by simp
  have HX4 := Lib.hid (((b4.block w1.heap.size (by omega)).trans (Below.heap_alloc w3 Y w1.heap.size z3)).trans HX3.out)
  have HY4 := Lib.hid ((b4.block w3.heap.size (by omega)).trans (heap_alloc_new w3 Y))
  have M4 := Lib.hid (((Below.refl w3.heap.size w3).alloc (Nat.le_refl _) Y).trans (b4.mono (by omega)))
  have L4 := Lib.hid (L3.out.trans (M4.out.mono (Nat.le_of_lt z3)))
  have HYd := Lib.hid hY
  clear s4 b4 hs3 p0 p1 p2 p3 p4 p5 p6 p7 L3a hY
  go_wp2_with fail
  refine (TK.out _ (HP.out.below (BW1.out.trans (L4.out.mono BW1.out.size)))).mono ?_
  rintro e w5 ⟨vh, vu, rfl, sh, su, b5⟩
  have MH := Lib.hid (show MeR w5 x vh vu from ⟨Rd.of_sl sh, Rd.of_sl su, HSM.out⟩)
  obtain ⟨ah1, kh1, rfl⟩ := sh.slice
  obtain ⟨au1, ku1, rfl⟩ := su.slice
  have z4 : w1.heap.size < w4.heap.size := (Array.getElem?_eq_some_iff.1 HX4.out).1
  have z4' : w3.heap.size < w4.heap.size := (Array.getElem?_eq_some_iff.1 HY4.out).1
  have HX5 := Lib.hid ((b5.block w1.heap.size z4).trans HX4.out)
  have HY5 := Lib.hid ((b5.block w3.heap.size z4').trans HY4.out)
  have L5 := Lib.hid (L4.out.trans (b5.mono L4.out.size))
  have M5 := Lib.hid (M4.out.trans (b5.mono M4.out.size))
  have z5 : w1.heap.size < w5.heap.size := (Array.getElem?_eq_some_iff.1 HX5.out).1
  have z5' : w3.heap.size < w5.heap.size := (Array.getElem?_eq_some_iff.1 HY5.out).1
  obtain ⟨p0, p1, p2, p3, p4, p5, p6, p7⟩ := cells8 HX5.out
  clear sh su b5 HX4 HY4 L4 M4 z4 z4'
  obtain ⟨Z, hZ⟩ : ∃ Z : Obj, Z = .cells #[.string (bs x.id), .int .i64 x.mn, .int .i64 x.mx, .int .i64 x.lv, .int .i64 x.se, .int .i64 x.sa, .slice ah1 x.files.length kh1, .slice au1 x.src.length ku1] 25 := ⟨_, rfl⟩
  have HZd := Lib.hid hZ
  have zz := heap_alloc_new w5 Z
  have zx := (Below.heap_alloc w5 Z w1.heap.size z5).trans HX5.out
  have zy := (Below.heap_alloc w5 Z w3.heap.size z5').trans HY5.out
  have hs5 : (w5.alloc Z).heap.size = w5.heap.size + 1 := by simp
  have N5 := (Below.refl w5.heap.size w5).alloc (Nat.le_refl _) Z
  have M5a := M5.out.alloc (Nat.le_of_lt z5') Z
  have L5a := L5.out.alloc (Nat.le_of_lt z5) Z
  rw [hZ] at zz zx zy hs5 N5 M5a L5a
  have ZZ := Lib.hid zz; have ZX := Lib.hid zx; have ZY := Lib.hid zy; have N5a := Lib.hid N5; have M5b := Lib.hid M5a; have L5b := Lib.hid L5a
  clear hZ zz zx zy N5 M5a L5a HX5 HY5 L5 M5
  unfold meV
  go_wp2_with fail
  refine (EM.out _).mono ?_
  rintro e w6 ⟨rfl, b6⟩
  have H6 := Lib.hid (show w6.heap[w5.heap.size]? = _ ∧ w6.heap[w1.heap.size]? = _ ∧ w6.heap[w3.heap.size]? = _ from ⟨(b6.block w5.heap.size (by omega)).trans ZZ.out, (b6.block w1.heap.size (by omega)).trans ZX.out, (b6.block w3.heap.size (by omega)).trans ZY.out⟩)
  have N6 := Lib.hid (N5a.out.trans (b6.mono (by omega)))
  have M6 := Lib.hid (M5b.out.trans (b6.mono (by omega)))
  have L6 := Lib.hid (L5b.out.trans (b6.mono (by omega)))
  clear b6 ZZ ZX ZY N5a M5b L5b hs5 p0 p1 p2 p3 p4 p5 p6 p7
  go_wp2_with fail
  refine (DM.out _).mono ?_
  rintro e w7 ⟨rfl, b7⟩
  have z6 : w5.heap.size < w6.heap.size := (Array.getElem?_eq_some_iff.1 H6.out.1).1
  have H7 := Lib.hid (show w7.heap[w5.heap.size]? = _ ∧ w7.heap[w1.heap.size]? = _ ∧ w7.heap[w3.heap.size]? = _ from ⟨(b7.block w5.heap.size (by omega)).trans H6.out.1, (b7.block w1.heap.size (by omega)).trans H6.out.2.1, (b7.block w3.heap.size (by omega)).trans H6.out.2.2⟩)
  have N7 := Lib.hid (N6.out.trans (b7.mono N6.out.size))
  have M7 := Lib.hid (M6.out.trans (b7.mono M6.out.size))
  have L7 := Lib.hid (L6.out.trans (b7.mono L6.out.size))
  clear b7 H6 N6 M6 L6 z6
  have HYe := HYd.out
  subst HYe
  have MR7 := Lib.hid (MR.out.on L7.out)
  have MG7 := Lib.hid (MG.out.on M7.out)
  have MH7 := Lib.hid (MH.out.on N7.out)
  have PA7 := Lib.hid (HP.out.below (BW1.out.trans (L7.out.mono BW1.out.size)))
  have BW7 := Lib.hid (BW1.out.trans (L7.out.mono BW1.out.size))
  have z7 : w5.heap.size < w7.heap.size := (Array.getElem?_eq_some_iff.1 H7.out.1).1
  obtain ⟨G, hG⟩ : ∃ G, G = w7.heap.size := ⟨_, rfl⟩
  clear MR MG MH L7 M7 N7 BW1 HYd HZd
  obtain ⟨u0, u1, u2, u3, u4, u5, u6, u7⟩ := cells8 H7.out.1
  obtain ⟨p0, p1, p2, p3, p4, p5, p6, p7⟩ := cells8 H7.out.2.1
  obtain ⟨y0, y1, y2, y3, y4, y5, y6, y7⟩ := cells8 H7.out.2.2
  have z71 : w1.heap.size < w7.heap.size := (Array.getElem?_eq_some_iff.1 H7.out.2.1).1
  have z73 : w3.heap.size < w7.heap.size := (Array.getElem?_eq_some_iff.1 H7.out.2.2).1
  have SX := Lib.hid (fun W (b : Below w7.heap.size w7 W) => show W.cell? ⟨w1.heap.size, 0, none⟩ = some (.string (bs x.id)) ∧ W.cell? ⟨w1.heap.size, 1, none⟩ = some (.int .i64 x.mn) ∧ W.cell? ⟨w1.heap.size, 2, none⟩ = some (.int .i64 x.mx) ∧ W.cell? ⟨w1.heap.size, 3, none⟩ = some (.int .i64 x.lv) ∧ W.cell? ⟨w1.heap.size, 4, none⟩ = some (.int .i64 x.se) ∧ W.cell? ⟨w1.heap.size, 5, none⟩ = some (.int .i64 x.sa) ∧ W.cell? ⟨w1.heap.size, 6, none⟩ = some (.slice af1 x.files.length kf1) ∧ W.cell? ⟨w1.heap.size, 7, none⟩ = some (.slice av1 x.src.length kv1) ∧ W.cell? ⟨w3.heap.size, 0, none⟩ = some (.string (bs x.id)) ∧ W.cell? ⟨w3.heap.size, 1, none⟩ = some (.int .i64 x.mn) ∧ W.cell? ⟨w3.heap.size, 2, none⟩ = some (.int .i64 x.mx) ∧ W.cell? ⟨w3.heap.size, 3, none⟩ = some (.int .i64 x.lv) ∧ W.cell? ⟨w3.heap.size, 4, none⟩ = some (.int .i64 x.se) ∧ W.cell? ⟨w3.heap.size, 5, none⟩ = some (.int .i64 x.sa) ∧ W.cell? ⟨w3.heap.size, 6, none⟩ = some (.slice ag1 x.files.length kg1) ∧ W.cell? ⟨w3.heap.size, 7, none⟩ = some (.slice at1 x.src.length kt1) ∧ W.cell? ⟨w5.heap.size, 0, none⟩ = some (.string (bs x.id)) ∧ W.cell? ⟨w5.heap.size, 1, none⟩ = some (.int .i64 x.mn) ∧ W.cell? ⟨w5.heap.size, 2, none⟩ = some (.int .i64 x.mx) ∧ W.cell? ⟨w5.heap.size, 3, none⟩ = some (.int .i64 x.lv) ∧ W.cell? ⟨w5.heap.size, 4, none⟩ = some (.int .i64 x.se) ∧ W.cell? ⟨w5.heap.size, 5, none⟩ = some (.int .i64 x.sa) ∧ W.cell? ⟨w5.heap.size, 6, none⟩ = some (.slice ah1 x.files.length kh1) ∧ W.cell? ⟨w5.heap.size, 7, none⟩ = some (.slice au1 x.src.length ku1) from ⟨(b.cell (p := ⟨w1.heap.size, 0, none⟩) z71).trans p0, (b.cell (p := ⟨w1.heap.size, 1, none⟩) z71).trans p1, (b.cell (p := ⟨w1.heap.size, 2, none⟩) z71).trans p2, (b.cell (p := ⟨w1.heap.size, 3, none⟩) z71).trans p3, (b.cell (p := ⟨w1.heap.size, 4, none⟩) z71).trans p4, (b.cell (p := ⟨w1.heap.size, 5, none⟩) z71).trans p5, (b.cell (p := ⟨w1.heap.size, 6, none⟩) z71).trans p6, (b.cell (p := ⟨w1.heap.size, 7, none⟩) z71).trans p7, (b.cell (p := ⟨w3.heap.size, 0, none⟩) z73).trans y0, (b.cell (p := ⟨w3.heap.size, 1, none⟩) z73).trans y1, (b.cell (p := ⟨w3.heap.size, 2, none⟩) z73).trans y2, (b.cell (p := ⟨w3.heap.size, 3, none⟩) z73).trans y3, (b.cell (p := ⟨w3.heap.size, 4, none⟩) z73).trans y4, (b.cell (p := ⟨w3.heap.size, 5, none⟩) z73).trans y5, (b.cell (p := ⟨w3.heap.size, 6, none⟩) z73).trans y6, (b.cell (p := ⟨w3.heap.size, 7, none⟩) z73).trans y7, (b.cell (p := ⟨w5.heap.size, 0, none⟩) z7).trans u0, (b.cell (p := ⟨w5.heap.size, 1, none⟩) z7).trans u1, (b.cell (p := ⟨w5.heap.size, 2, none⟩) z7).trans u2, (b.cell (p := ⟨w5.heap.size, 3, none⟩) z7).trans u3, (b.cell (p := ⟨w5.heap.size, 4, none⟩) z7).trans u4, (b.cell (p := ⟨w5.heap.size, 5, none⟩) z7).trans u5, (b.cell (p := ⟨w5.heap.size, 6, none⟩) z7).trans u6, (b.cell (p := ⟨w5.heap.size, 7, none⟩) z7).trans u7⟩)
  have B7 : Below w7.heap.size w7 w7 := Below.refl _ _
  have B7d : Below w7.heap.size w7 w7.drew := B7.drew
  clear hG G z7 z71 z73 H7 MA EN DE PU TK EM DM HL L3 z3 z5 z5' z2 cv4 u0 u1 u2 u3 u4 u5 u6 u7 p0 p1 p2 p3 p4 p5 p6 p7 y0 y1 y2 y3 y4 y5 y6 y7
  go_wp2_with fail
  go_region_held3 (fun W => W.cell? ⟨w1.heap.size, 0, none⟩ = some (.string (bs x.id)) ∧ W.cell? ⟨w1.heap.size, 1, none⟩ = some (.int .i64 x.mn) ∧ W.cell? ⟨w1.heap.size, 2, none⟩ = some (.int .i64 x.mx) ∧ W.cell? ⟨w1.heap.size, 3, none⟩ = some (.int .i64 x.lv) ∧ W.cell? ⟨w1.heap.size, 4, none⟩ = some (.int .i64 x.se) ∧ W.cell? ⟨w1.heap.size, 5, none⟩ = some (.int .i64 x.sa) ∧ W.cell? ⟨w1.heap.size, 6, none⟩ = some (.slice af1 x.files.length kf1) ∧ W.cell? ⟨w1.heap.size, 7, none⟩ = some (.slice av1 x.src.length kv1) ∧ W.cell? ⟨w3.heap.size, 0, none⟩ = some (.string (bs x.id)) ∧ W.cell? ⟨w3.heap.size, 1, none⟩ = some (.int .i64 x.mn) ∧ W.cell? ⟨w3.heap.size, 2, none⟩ = some (.int .i64 x.mx) ∧ W.cell? ⟨w3.heap.size, 3, none⟩ = some (.int .i64 x.lv) ∧ W.cell? ⟨w3.heap.size, 4, none⟩ = some (.int .i64 x.se) ∧ W.cell? ⟨w3.heap.size, 5, none⟩ = some (.int .i64 x.sa) ∧ W.cell? ⟨w3.heap.size, 6, none⟩ = some (.slice ag1 x.files.length kg1) ∧ W.cell? ⟨w3.heap.size, 7, none⟩ = some (.slice at1 x.src.length kt1) ∧ W.cell? ⟨w5.heap.size, 0, none⟩ = some (.string (bs x.id)) ∧ W.cell? ⟨w5.heap.size, 1, none⟩ = some (.int .i64 x.mn) ∧ W.cell? ⟨w5.heap.size, 2, none⟩ = some (.int .i64 x.mx) ∧ W.cell? ⟨w5.heap.size, 3, none⟩ = some (.int .i64 x.lv) ∧ W.cell? ⟨w5.heap.size, 4, none⟩ = some (.int .i64 x.se) ∧ W.cell? ⟨w5.heap.size, 5, none⟩ = some (.int .i64 x.sa) ∧ W.cell? ⟨w5.heap.size, 6, none⟩ = some (.slice ah1 x.files.length kh1) ∧ W.cell? ⟨w5.heap.size, 7, none⟩ = some (.slice au1 x.src.length ku1))
    (first | (refine SX.out _ ?_; assumption) | assumption | fail)
    (first
      | (go_at_call 12; refine (mawake_any _).mono ?_; rintro e w8 ⟨rfl, b8⟩; have B8 : Below w7.heap.size w7 w8 := B7d.trans b8)
      | (go_at_call 13; refine (CK.out _ _ _ (MR7.out.on B8) (PA7.out.below B8)).mono ?_; rintro e w9 ⟨rfl, b9⟩; have B9 := B8.trans (b9.mono B8.size))
      | (go_at_call 15; (with_reducible refine (TD.out _ _ w9 (MG7.out.on B9)).mono ?_); rintro e w10 ⟨v10, rfl, s10, b10⟩; have B10 := B9.trans (b10.mono B9.size); have R10 : MeR w10 x v10 (.slice at1 x.src.length kt1) := ⟨Rd.of_sl s10, (MG7.out.on B10).2.1, HSM.out⟩)
      | (go_at_call 15; (with_reducible refine (TD.out _ _ w10 (MR7.out.on B10)).mono ?_); rintro e w11 ⟨v11, rfl, s11, b11⟩; have B11 := B10.trans (b11.mono B10.size); have R10b := R10.on b11; have R11 : MeR w11 x v11 (.slice av1 x.src.length kv1) := ⟨Rd.of_sl s11, (MR7.out.on B11).2.1, HSM.out⟩)
      | (go_at_call 14; (with_reducible refine (SA.out _ _ _ _ w11 R10b R11).mono ?_); rintro e w12 ⟨rfl, b12⟩; have B12 := B11.trans (b12.mono B11.size))
      | (go_at_call 15; (with_reducible refine (TD.out _ _ w12 (MH7.out.on B12)).mono ?_); rintro e w13 ⟨v13, rfl, s13, b13⟩; have B13 := B12.trans (b13.mono B12.size); have R13 : MeR w13 x v13 (.slice au1 x.src.length ku1) := ⟨Rd.of_sl s13, (MH7.out.on B13).2.1, HSM.out⟩)
      | (go_at_call 15; (with_reducible refine (TD.out _ _ w13 (MR7.out.on B13)).mono ?_); rintro e w14 ⟨v14, rfl, s14, b14⟩; have B14 := B13.trans (b14.mono B13.size); have R13b := R13.on b14; have R14 : MeR w14 x v14 (.slice av1 x.src.length kv1) := ⟨Rd.of_sl s14, (MR7.out.on B14).2.1, HSM.out⟩)
      | (go_at_call 14; (with_reducible refine (SA.out _ _ _ _ w14 R13b R14).mono ?_); rintro e w15 ⟨rfl, b15⟩; have B15 := B14.trans (b15.mono B14.size))
      | fail)
  go_wp2
  go_ret
  exact ⟨rfl, BW7.out.trans (B15.mono BW7.out.size)⟩
end Go.Proofs.YtkhpemfkbdiloaaDoor
