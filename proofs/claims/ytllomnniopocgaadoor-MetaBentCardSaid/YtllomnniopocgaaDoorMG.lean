/- Layer 9: the statement MetaBent, walked. -/
import Derived.Test.YtllomnniopocgaaDoorMF
namespace Go.Proofs.YtllomnniopocgaaDoor
open Go.RowKit Go.Lib

/-- Either way to a mark or a meta: the text. -/
def bentT (x : Mt.Me) (q : Nat) (mark : Bool) : List UInt8 := if mark = true then Fr.rec 2 (Mt.mkB x.id q) else Fr.rec 1 (Mt.fld x)

set_option maxHeartbeats 4000000 in
set_option maxRecDepth 100000 in
theorem bentL_any (va : List UInt8) (mn mx lv se sa : Int) (af : Option Addr) (nf kf : Nat) (a7 : Option Addr) (n7 k7 : Nat) (tick seq place : Int) (by' : Nat) (mark : Bool) (w : World)
    (hn7 : n7 ≤ maxLen) (hva : va.length ≤ maxLen) (hby : by' < 256) (hpl : -9223372036854775808 ≤ place ∧ place ≤ 9223372036854775807) (hP : PartsAt w) :
    Calls Tryd.prog 5 #[.agg #[.string (bs va), .int .i64 mn, .int .i64 mx, .int .i64 lv, .int .i64 se, .int .i64 sa, .slice af nf kf, .slice a7 n7 k7], .int .i64 tick, .int .i64 seq, .int .i64 place, .int .u8 by', .bool mark] w fun e w' => e = .returned (.bool true) ∧ Below w.heap.size w w' := by
  have hT := bs_toList
  obtain ⟨x, hx⟩ : ∃ x, x = Mt.mdM va mn mx lv se sa n7 tick seq := ⟨_, rfl⟩
  have hchk : Mt.chk x = true := by rw [hx]; exact Mt.chk_mdM _ _ _ _ _ _ _ _ _
  have hsum : ∀ f ∈ x.files, f.sum < 4294967296 := by rw [hx]; exact Mt.sum_mdM _ _ _ _ _ _ _ _ _
  have hsm : x.files.length ≤ 1000000 ∧ x.src.length ≤ 1000000 := by rw [hx]; exact md_small _ _ _ _ _ _ _ _ _
  have hid : x.id.length = 16 := by rw [hx]; exact Idn.nam_len _ _
  have MA := Lib.hid (fun W => show Calls Tryd.prog 6 #[.agg #[.string (bs va), .int .i64 mn, .int .i64 mx, .int .i64 lv, .int .i64 se, .int .i64 sa, .slice af nf kf, .slice a7 n7 k7], .int .i64 tick, .int .i64 seq] W (MadeM W x) by
    rw [hx]; exact made_any va mn mx lv se sa (.slice af nf kf) a7 n7 k7 tick seq W hva hn7)
  have EN := Lib.hid (fun vf vs W hW => encode_any x vf vs W hW hchk hsum)
  obtain ⟨q1, hq1⟩ : ∃ q : Nat, seq % 65536 = q := ⟨(seq % 65536).toNat, by omega⟩
  have k1 : bits .and .i64 seq 65535 = q1 := by have := i64_mask seq 16 (by decide); rw [← hq1]; exact this
  have q1b : q1 ≤ 65535 := by omega
  have EM := Lib.hid (fun W => encMark_any x.id q1 W (by omega) (by omega))
  obtain ⟨T, hTt⟩ : ∃ T, T = bentT x q1 mark := ⟨_, rfl⟩
  obtain ⟨kk, dd, hrec⟩ : ∃ k d, Fr.rec k d = T := by
    rw [hTt]; unfold bentT
    split
    · exact ⟨_, _, rfl⟩
    · exact ⟨_, _, rfl⟩
  have hTl : T.length ≤ 100000 := by
    have h1 := Mt.fld_len x hchk
    have h2 := (Leb.encU_len q1).2
    have h3 := (Leb.encU_len x.id.length).2
    rw [hTt]; unfold bentT
    split
    · have := (Fr.rec_len 2 (Mt.mkB x.id q1)).2
      have : (Mt.mkB x.id q1).length ≤ 100 := by rw [Mt.mkB, List.length_append, Leb.encT, List.length_append]; omega
      omega
    · have := (Fr.rec_len 1 (Mt.fld x)).2
      omega
  have HSM := Lib.hid hsm
  have HP := Lib.hid hP
  have hz : (bs T).size = T.length := bs_size T
  have HT := Lib.hid hTt
  have HREC := Lib.hid hrec
  clear hx hchk hsum hsm hid hq1 hP hTt hrec hva hn7
  have EMt := Lib.hid (fun (h : mark = true) W => show Calls Tryd.prog 13 #[.string (bs x.id), .int .i64 q1] W (fun e w' => e = .returned (.string (bs T)) ∧ Below W.heap.size W w') by
    have := EM.out W
    rwa [show Fr.rec 2 (Mt.mkB x.id q1) = T by rw [HT.out]; unfold bentT; rw [if_pos h]] at this)
  have ENf := Lib.hid (fun (h : mark = false) vf vs W hW => show Calls Tryd.prog 9 #[meV x vf vs] W (fun e w' => e = .returned (.string (bs T)) ∧ Below W.heap.size W w') by
    have := EN.out vf vs W hW
    rwa [show Fr.rec 1 (Mt.fld x) = T by rw [HT.out]; unfold bentT; rw [if_neg (by simp [h])]] at this)
  obtain ⟨T0, hT0⟩ : ∃ T0, T0 = Fr.rec 1 (Mt.fld x) := ⟨_, rfl⟩
  rw [← hT0] at EN
  clear hT0 EM
  have FINI : ∀ (W : World), PartsAt W → True := fun _ _ => trivial
  have BODY : Hid (place < 0 ∨ (T.length : Int) ≤ place ∨ by' = 0 ∨ ∃ (p : Nat) (c c' : UInt8), place = p ∧ p < T.length ∧ T[p]? = some c ∧ 0 < by' ∧ bits BinOp.xor IntKind.u8 (c.toNat : Int) (by' : Int) = (c'.toNat : Int) ∧ (Mt.dcd (T.set p c')).2.2 ≠ 0 ∧ (Mt.dmk (T.set p c')).2.2.2 ≠ 0) := by
    refine Lib.hid ?_
    by_cases h0 : place < 0
    · exact .inl h0
    · by_cases h1 : (T.length : Int) ≤ place
      · exact .inr (.inl h1)
      · by_cases h2 : by' = 0
        · exact .inr (.inr (.inl h2))
        · obtain ⟨p, rfl⟩ := Int.eq_ofNat_of_zero_le (show 0 ≤ place by omega)
          have hp : p < T.length := by omega
          obtain ⟨c', h3, h4⟩ := u8_xor_ne T[p] by' (by omega) hby
          obtain ⟨o1, o2⟩ := bent_both HREC.out p T[p] c' (List.getElem?_eq_getElem hp) h4
          exact .inr (.inr (.inr ⟨p, T[p], c', rfl, hp, List.getElem?_eq_getElem hp, by omega, h3, dcd_err o1, dmk_err o2⟩))
  have BB := BODY.out
  clear BODY FINI hby hpl HREC HT
  have hm : T.length ≤ maxLen := by unfold maxLen; omega
  unfold meV at EN ENf
  rcases BB with h | h | h | ⟨p, c, c', rfl, hp, hc, hb0, hbx, hd1, hd2⟩
  · skip
    rcases mark with _ | _
    · skip
      have ENx := Lib.hid (ENf.out rfl)
      clear EMt ENf
      go_enter Tryd.func5, Tryd.ntmps5
      go_wp2_with fail
      refine (MA.out _).mono ?_
      rintro e w1 ⟨vf, vs, rfl, sf, ss, b1⟩
      have MR := Lib.hid (show MeR w1 x vf vs from ⟨Rd.of_sl sf, Rd.of_sl ss, HSM.out⟩)
      obtain ⟨af1, kf1, rfl⟩ := sf.slice
      obtain ⟨av1, kv1, rfl⟩ := ss.slice
      have BW1 := Lib.hid (((Below.refl w.heap.size w).alloc (Nat.le_refl _) _).trans (b1.mono (by simp)))
      have z1 := BW1.out.size
      clear sf ss b1
      unfold meV
      go_wp2_with fail
      refine (ENx.out _ _ _ (MR.out.on ((Below.refl _ _).alloc (Nat.le_refl _) _))).mono ?_
      rintro e w3 ⟨rfl, b3⟩
      have BW3 := Lib.hid ((BW1.out.alloc z1 _).trans (b3.mono (by simp; omega)))
      clear b3
      go_wp2_with fail
      refine (mawake_any _).mono ?_
      rintro e w4 ⟨rfl, b4⟩
      have BW4 := Lib.hid (BW3.out.trans (b4.mono BW3.out.size))
      clear b4
      go_wp2_with fail
      refine (mawake_any _).mono ?_
      rintro e w5 ⟨rfl, b5⟩
      go_wp2
      go_ret
      exact ⟨rfl, BW4.out.trans (b5.mono BW4.out.size)⟩
    · skip
      have EMx := Lib.hid (EMt.out rfl)
      clear EMt ENf
      go_enter Tryd.func5, Tryd.ntmps5
      go_wp2_with fail
      refine (MA.out _).mono ?_
      rintro e w1 ⟨vf, vs, rfl, sf, ss, b1⟩
      have MR := Lib.hid (show MeR w1 x vf vs from ⟨Rd.of_sl sf, Rd.of_sl ss, HSM.out⟩)
      obtain ⟨af1, kf1, rfl⟩ := sf.slice
      obtain ⟨av1, kv1, rfl⟩ := ss.slice
      have BW1 := Lib.hid (((Below.refl w.heap.size w).alloc (Nat.le_refl _) _).trans (b1.mono (by simp)))
      have z1 := BW1.out.size
      clear sf ss b1
      unfold meV
      go_wp2_with fail
      refine (EN.out _ _ _ (MR.out.on ((Below.refl _ _).alloc (Nat.le_refl _) _))).mono ?_
      rintro e w2 ⟨rfl, b2⟩
      have hb2 := (b2.block w1.heap.size (by simp)).trans (heap_alloc_new w1 _)
      obtain ⟨p0, p1, p2, p3, p4, p5, p6, p7⟩ := cells8 hb2
      have BW2 := Lib.hid ((BW1.out.alloc z1 _).trans (b2.mono (by simp; omega)))
      clear hb2 b2
      go_wp2_with fail
      refine (EMx.out _).mono ?_
      rintro e w3 ⟨rfl, b3⟩
      have BW3 := Lib.hid (BW2.out.trans (b3.mono BW2.out.size))
      clear b3 p0 p1 p2 p3 p4 p5 p6 p7
      go_wp2_with fail
      refine (mawake_any _).mono ?_
      rintro e w4 ⟨rfl, b4⟩
      have BW4 := Lib.hid (BW3.out.trans (b4.mono BW3.out.size))
      clear b4
      go_wp2_with fail
      refine (mawake_any _).mono ?_
      rintro e w5 ⟨rfl, b5⟩
      go_wp2
      go_ret
      exact ⟨rfl, BW4.out.trans (b5.mono BW4.out.size)⟩
  · have h1 : ((bs T).size : Int) ≤ place := by omega
    have h2 : ¬ place < 0 := by omega
    clear h hz
    rcases mark with _ | _
    · skip
      have ENx := Lib.hid (ENf.out rfl)
      clear EMt ENf
      go_enter Tryd.func5, Tryd.ntmps5
      go_wp2_with fail
      refine (MA.out _).mono ?_
      rintro e w1 ⟨vf, vs, rfl, sf, ss, b1⟩
      have MR := Lib.hid (show MeR w1 x vf vs from ⟨Rd.of_sl sf, Rd.of_sl ss, HSM.out⟩)
      obtain ⟨af1, kf1, rfl⟩ := sf.slice
      obtain ⟨av1, kv1, rfl⟩ := ss.slice
      have BW1 := Lib.hid (((Below.refl w.heap.size w).alloc (Nat.le_refl _) _).trans (b1.mono (by simp)))
      have z1 := BW1.out.size
      clear sf ss b1
      unfold meV
      go_wp2_with fail
      refine (ENx.out _ _ _ (MR.out.on ((Below.refl _ _).alloc (Nat.le_refl _) _))).mono ?_
      rintro e w3 ⟨rfl, b3⟩
      have BW3 := Lib.hid ((BW1.out.alloc z1 _).trans (b3.mono (by simp; omega)))
      clear b3
      go_wp2_with fail
      refine (mawake_any _).mono ?_
      rintro e w4 ⟨rfl, b4⟩
      have BW4 := Lib.hid (BW3.out.trans (b4.mono BW3.out.size))
      clear b4
      go_wp2_with fail
      refine (mawake_any _).mono ?_
      rintro e w5 ⟨rfl, b5⟩
      go_wp2
      go_ret
      exact ⟨rfl, BW4.out.trans (b5.mono BW4.out.size)⟩
    · skip
      have EMx := Lib.hid (EMt.out rfl)
      clear EMt ENf
      go_enter Tryd.func5, Tryd.ntmps5
      go_wp2_with fail
      refine (MA.out _).mono ?_
      rintro e w1 ⟨vf, vs, rfl, sf, ss, b1⟩
      have MR := Lib.hid (show MeR w1 x vf vs from ⟨Rd.of_sl sf, Rd.of_sl ss, HSM.out⟩)
      obtain ⟨af1, kf1, rfl⟩ := sf.slice
      obtain ⟨av1, kv1, rfl⟩ := ss.slice
      have BW1 := Lib.hid (((Below.refl w.heap.size w).alloc (Nat.le_refl _) _).trans (b1.mono (by simp)))
      have z1 := BW1.out.size
      clear sf ss b1
      unfold meV
      go_wp2_with fail
      refine (EN.out _ _ _ (MR.out.on ((Below.refl _ _).alloc (Nat.le_refl _) _))).mono ?_
      rintro e w2 ⟨rfl, b2⟩
      have hb2 := (b2.block w1.heap.size (by simp)).trans (heap_alloc_new w1 _)
      obtain ⟨p0, p1, p2, p3, p4, p5, p6, p7⟩ := cells8 hb2
      have BW2 := Lib.hid ((BW1.out.alloc z1 _).trans (b2.mono (by simp; omega)))
      clear hb2 b2
      go_wp2_with fail
      refine (EMx.out _).mono ?_
      rintro e w3 ⟨rfl, b3⟩
      have BW3 := Lib.hid (BW2.out.trans (b3.mono BW2.out.size))
      clear b3 p0 p1 p2 p3 p4 p5 p6 p7
      go_wp2_with fail
      refine (mawake_any _).mono ?_
      rintro e w4 ⟨rfl, b4⟩
      have BW4 := Lib.hid (BW3.out.trans (b4.mono BW3.out.size))
      clear b4
      go_wp2_with fail
      refine (mawake_any _).mono ?_
      rintro e w5 ⟨rfl, b5⟩
      go_wp2
      go_ret
      exact ⟨rfl, BW4.out.trans (b5.mono BW4.out.size)⟩
  · subst h
    by_cases h0 : place < 0
    · skip
      rcases mark with _ | _
      · skip
        have ENx := Lib.hid (ENf.out rfl)
        clear EMt ENf
        go_enter Tryd.func5, Tryd.ntmps5
        go_wp2_with fail
        refine (MA.out _).mono ?_
        rintro e w1 ⟨vf, vs, rfl, sf, ss, b1⟩
        have MR := Lib.hid (show MeR w1 x vf vs from ⟨Rd.of_sl sf, Rd.of_sl ss, HSM.out⟩)
        obtain ⟨af1, kf1, rfl⟩ := sf.slice
        obtain ⟨av1, kv1, rfl⟩ := ss.slice
        have BW1 := Lib.hid (((Below.refl w.heap.size w).alloc (Nat.le_refl _) _).trans (b1.mono (by simp)))
        have z1 := BW1.out.size
        clear sf ss b1
        unfold meV
        go_wp2_with fail
        refine (ENx.out _ _ _ (MR.out.on ((Below.refl _ _).alloc (Nat.le_refl _) _))).mono ?_
        rintro e w3 ⟨rfl, b3⟩
        have BW3 := Lib.hid ((BW1.out.alloc z1 _).trans (b3.mono (by simp; omega)))
        clear b3
        go_wp2_with fail
        refine (mawake_any _).mono ?_
        rintro e w4 ⟨rfl, b4⟩
        have BW4 := Lib.hid (BW3.out.trans (b4.mono BW3.out.size))
        clear b4
        go_wp2_with fail
        refine (mawake_any _).mono ?_
        rintro e w5 ⟨rfl, b5⟩
        go_wp2
        go_ret
        exact ⟨rfl, BW4.out.trans (b5.mono BW4.out.size)⟩
      · skip
        have EMx := Lib.hid (EMt.out rfl)
        clear EMt ENf
        go_enter Tryd.func5, Tryd.ntmps5
        go_wp2_with fail
        refine (MA.out _).mono ?_
        rintro e w1 ⟨vf, vs, rfl, sf, ss, b1⟩
        have MR := Lib.hid (show MeR w1 x vf vs from ⟨Rd.of_sl sf, Rd.of_sl ss, HSM.out⟩)
        obtain ⟨af1, kf1, rfl⟩ := sf.slice
        obtain ⟨av1, kv1, rfl⟩ := ss.slice
        have BW1 := Lib.hid (((Below.refl w.heap.size w).alloc (Nat.le_refl _) _).trans (b1.mono (by simp)))
        have z1 := BW1.out.size
        clear sf ss b1
        unfold meV
        go_wp2_with fail
        refine (EN.out _ _ _ (MR.out.on ((Below.refl _ _).alloc (Nat.le_refl _) _))).mono ?_
        rintro e w2 ⟨rfl, b2⟩
        have hb2 := (b2.block w1.heap.size (by simp)).trans (heap_alloc_new w1 _)
        obtain ⟨p0, p1, p2, p3, p4, p5, p6, p7⟩ := cells8 hb2
        have BW2 := Lib.hid ((BW1.out.alloc z1 _).trans (b2.mono (by simp; omega)))
        clear hb2 b2
        go_wp2_with fail
        refine (EMx.out _).mono ?_
        rintro e w3 ⟨rfl, b3⟩
        have BW3 := Lib.hid (BW2.out.trans (b3.mono BW2.out.size))
        clear b3 p0 p1 p2 p3 p4 p5 p6 p7
        go_wp2_with fail
        refine (mawake_any _).mono ?_
        rintro e w4 ⟨rfl, b4⟩
        have BW4 := Lib.hid (BW3.out.trans (b4.mono BW3.out.size))
        clear b4
        go_wp2_with fail
        refine (mawake_any _).mono ?_
        rintro e w5 ⟨rfl, b5⟩
        go_wp2
        go_ret
        exact ⟨rfl, BW4.out.trans (b5.mono BW4.out.size)⟩
    · by_cases h1 : ((bs T).size : Int) ≤ place
      · skip
        rcases mark with _ | _
        · skip
          have ENx := Lib.hid (ENf.out rfl)
          clear EMt ENf
          go_enter Tryd.func5, Tryd.ntmps5
          go_wp2_with fail
          refine (MA.out _).mono ?_
          rintro e w1 ⟨vf, vs, rfl, sf, ss, b1⟩
          have MR := Lib.hid (show MeR w1 x vf vs from ⟨Rd.of_sl sf, Rd.of_sl ss, HSM.out⟩)
          obtain ⟨af1, kf1, rfl⟩ := sf.slice
          obtain ⟨av1, kv1, rfl⟩ := ss.slice
          have BW1 := Lib.hid (((Below.refl w.heap.size w).alloc (Nat.le_refl _) _).trans (b1.mono (by simp)))
          have z1 := BW1.out.size
          clear sf ss b1
          unfold meV
          go_wp2_with fail
          refine (ENx.out _ _ _ (MR.out.on ((Below.refl _ _).alloc (Nat.le_refl _) _))).mono ?_
          rintro e w3 ⟨rfl, b3⟩
          have BW3 := Lib.hid ((BW1.out.alloc z1 _).trans (b3.mono (by simp; omega)))
          clear b3
          go_wp2_with fail
          refine (mawake_any _).mono ?_
          rintro e w4 ⟨rfl, b4⟩
          have BW4 := Lib.hid (BW3.out.trans (b4.mono BW3.out.size))
          clear b4
          go_wp2_with fail
          refine (mawake_any _).mono ?_
          rintro e w5 ⟨rfl, b5⟩
          go_wp2
          go_ret
          exact ⟨rfl, BW4.out.trans (b5.mono BW4.out.size)⟩
        · skip
          have EMx := Lib.hid (EMt.out rfl)
          clear EMt ENf
          go_enter Tryd.func5, Tryd.ntmps5
          go_wp2_with fail
          refine (MA.out _).mono ?_
          rintro e w1 ⟨vf, vs, rfl, sf, ss, b1⟩
          have MR := Lib.hid (show MeR w1 x vf vs from ⟨Rd.of_sl sf, Rd.of_sl ss, HSM.out⟩)
          obtain ⟨af1, kf1, rfl⟩ := sf.slice
          obtain ⟨av1, kv1, rfl⟩ := ss.slice
          have BW1 := Lib.hid (((Below.refl w.heap.size w).alloc (Nat.le_refl _) _).trans (b1.mono (by simp)))
          have z1 := BW1.out.size
          clear sf ss b1
          unfold meV
          go_wp2_with fail
          refine (EN.out _ _ _ (MR.out.on ((Below.refl _ _).alloc (Nat.le_refl _) _))).mono ?_
          rintro e w2 ⟨rfl, b2⟩
          have hb2 := (b2.block w1.heap.size (by simp)).trans (heap_alloc_new w1 _)
          obtain ⟨p0, p1, p2, p3, p4, p5, p6, p7⟩ := cells8 hb2
          have BW2 := Lib.hid ((BW1.out.alloc z1 _).trans (b2.mono (by simp; omega)))
          clear hb2 b2
          go_wp2_with fail
          refine (EMx.out _).mono ?_
          rintro e w3 ⟨rfl, b3⟩
          have BW3 := Lib.hid (BW2.out.trans (b3.mono BW2.out.size))
          clear b3 p0 p1 p2 p3 p4 p5 p6 p7
          go_wp2_with fail
          refine (mawake_any _).mono ?_
          rintro e w4 ⟨rfl, b4⟩
          have BW4 := Lib.hid (BW3.out.trans (b4.mono BW3.out.size))
          clear b4
          go_wp2_with fail
          refine (mawake_any _).mono ?_
          rintro e w5 ⟨rfl, b5⟩
          go_wp2
          go_ret
          exact ⟨rfl, BW4.out.trans (b5.mono BW4.out.size)⟩
      · skip
        rcases mark with _ | _
        · skip
          have ENx := Lib.hid (ENf.out rfl)
          clear EMt ENf
          go_enter Tryd.func5, Tryd.ntmps5
          go_wp2_with fail
          refine (MA.out _).mono ?_
          rintro e w1 ⟨vf, vs, rfl, sf, ss, b1⟩
          have MR := Lib.hid (show MeR w1 x vf vs from ⟨Rd.of_sl sf, Rd.of_sl ss, HSM.out⟩)
          obtain ⟨af1, kf1, rfl⟩ := sf.slice
          obtain ⟨av1, kv1, rfl⟩ := ss.slice
          have BW1 := Lib.hid (((Below.refl w.heap.size w).alloc (Nat.le_refl _) _).trans (b1.mono (by simp)))
          have z1 := BW1.out.size
          clear sf ss b1
          unfold meV
          go_wp2_with fail
          refine (ENx.out _ _ _ (MR.out.on ((Below.refl _ _).alloc (Nat.le_refl _) _))).mono ?_
          rintro e w3 ⟨rfl, b3⟩
          have BW3 := Lib.hid ((BW1.out.alloc z1 _).trans (b3.mono (by simp; omega)))
          clear b3
          go_wp2_with fail
          refine (mawake_any _).mono ?_
          rintro e w4 ⟨rfl, b4⟩
          have BW4 := Lib.hid (BW3.out.trans (b4.mono BW3.out.size))
          clear b4
          go_wp2_with fail
          refine (mawake_any _).mono ?_
          rintro e w5 ⟨rfl, b5⟩
          go_wp2
          go_ret
          exact ⟨rfl, BW4.out.trans (b5.mono BW4.out.size)⟩
        · skip
          have EMx := Lib.hid (EMt.out rfl)
          clear EMt ENf
          go_enter Tryd.func5, Tryd.ntmps5
          go_wp2_with fail
          refine (MA.out _).mono ?_
          rintro e w1 ⟨vf, vs, rfl, sf, ss, b1⟩
          have MR := Lib.hid (show MeR w1 x vf vs from ⟨Rd.of_sl sf, Rd.of_sl ss, HSM.out⟩)
          obtain ⟨af1, kf1, rfl⟩ := sf.slice
          obtain ⟨av1, kv1, rfl⟩ := ss.slice
          have BW1 := Lib.hid (((Below.refl w.heap.size w).alloc (Nat.le_refl _) _).trans (b1.mono (by simp)))
          have z1 := BW1.out.size
          clear sf ss b1
          unfold meV
          go_wp2_with fail
          refine (EN.out _ _ _ (MR.out.on ((Below.refl _ _).alloc (Nat.le_refl _) _))).mono ?_
          rintro e w2 ⟨rfl, b2⟩
          have hb2 := (b2.block w1.heap.size (by simp)).trans (heap_alloc_new w1 _)
          obtain ⟨p0, p1, p2, p3, p4, p5, p6, p7⟩ := cells8 hb2
          have BW2 := Lib.hid ((BW1.out.alloc z1 _).trans (b2.mono (by simp; omega)))
          clear hb2 b2
          go_wp2_with fail
          refine (EMx.out _).mono ?_
          rintro e w3 ⟨rfl, b3⟩
          have BW3 := Lib.hid (BW2.out.trans (b3.mono BW2.out.size))
          clear b3 p0 p1 p2 p3 p4 p5 p6 p7
          go_wp2_with fail
          refine (mawake_any _).mono ?_
          rintro e w4 ⟨rfl, b4⟩
          have BW4 := Lib.hid (BW3.out.trans (b4.mono BW3.out.size))
          clear b4
          go_wp2_with fail
          refine (mawake_any _).mono ?_
          rintro e w5 ⟨rfl, b5⟩
          go_wp2
          go_ret
          exact ⟨rfl, BW4.out.trans (b5.mono BW4.out.size)⟩
  · have hp' : (p : Int) < (bs T).size := by omega
    clear hz
    have hp0 : ¬ ((p : Int) < 0) := by omega
    have hby0 : ((by' : Int) == 0) = false := by rw [beq_eq_false_iff_ne]; omega
    obtain ⟨pd, hd⟩ : ∃ q, Mt.dcd (T.set p c') = q := ⟨_, rfl⟩
    obtain ⟨md, l2, e2⟩ := pd
    obtain ⟨pm, hmk⟩ : ∃ q, Mt.dmk (T.set p c') = q := ⟨_, rfl⟩
    obtain ⟨idm, nm, l3, e3⟩ := pm
    rw [hd] at hd1
    rw [hmk] at hd2
    simp only at hd1 hd2
    have hTs : (T.set p c').length ≤ 140737488350000 := by rw [List.length_set]; omega
    have DC := Lib.hid (fun W hW => show Calls Tryd.prog 8 #[.string (bs (T.set p c'))] W (DecN W e2) from (decode_any (T.set p c') W hTs hW md l2 e2 hd).mono fun e w' h => by
      unfold DecP at h; rw [if_neg hd1] at h; exact h)
    have DMK := Lib.hid (fun W => show Calls Tryd.prog 12 #[.string (bs (T.set p c'))] W (fun e w' => e = .returned (.tuple #[.string (bs []), .int .i64 0, .int .i64 e3]) ∧ Below W.heap.size W w') by
      have := decMark_any (T.set p c') W hTs
      rwa [hmk, dmkV_no _ _ _ _ hd2] at this)
    have he' : ((e2 : Int) == 0) = false := by rw [beq_eq_false_iff_ne]; omega
    have he2 : ((e2 : Int) != 0) = true := by rw [bne, he']; rfl
    have hf' : ((e3 : Int) == 0) = false := by rw [beq_eq_false_iff_ne]; omega
    have hf2 : ((e3 : Int) != 0) = true := by rw [bne, hf']; rfl
    clear hd hmk hd1 hd2 hTs
    rcases mark with _ | _
    · skip
      have ENx := Lib.hid (ENf.out rfl)
      clear EMt ENf
      go_enter Tryd.func5, Tryd.ntmps5
      go_wp2_with fail
      refine (MA.out _).mono ?_
      rintro e w1 ⟨vf, vs, rfl, sf, ss, b1⟩
      have MR := Lib.hid (show MeR w1 x vf vs from ⟨Rd.of_sl sf, Rd.of_sl ss, HSM.out⟩)
      obtain ⟨af1, kf1, rfl⟩ := sf.slice
      obtain ⟨av1, kv1, rfl⟩ := ss.slice
      have BW1 := Lib.hid (((Below.refl w.heap.size w).alloc (Nat.le_refl _) _).trans (b1.mono (by simp)))
      have z1 := BW1.out.size
      clear sf ss b1
      unfold meV
      go_wp2_with fail
      refine (ENx.out _ _ _ (MR.out.on ((Below.refl _ _).alloc (Nat.le_refl _) _))).mono ?_
      rintro e w3 ⟨rfl, b3⟩
      have BW3 := Lib.hid ((BW1.out.alloc z1 _).trans (b3.mono (by simp; omega)))
      clear b3
      go_wp2_with fail
      refine (mawake_any _).mono ?_
      rintro e w4 ⟨rfl, b4⟩
      have BW4 := Lib.hid (BW3.out.trans (b4.mono BW3.out.size))
      clear b4
      obtain ⟨g, o, cap, W, hcv, hn, hcap, hs, hW⟩ := bytes_at w4 T hm (by omega)
      have p0 := sl_cell hs p c hc
      have f0 : W.frozen? ⟨g, o + p, none⟩ = false := by
        rcases hs.2 with ⟨h0, _⟩ | ⟨g', off', cap', he, _, _, _, _, hfree, _⟩
        · cases h0
        · cases he; exact (hfree p (by omega)).2
      have q0 := sl_set hs c' hp
      have q1 := text_conv q0
      have hg := (hs.lt g rfl).1
      have BW5 := Lib.hid ((BW4.out.trans (hW.mono BW4.out.size)).setCell (p := ⟨g, o + p, none⟩) (Nat.le_trans BW4.out.size hg) (.int .u8 c'.toNat))
      have HS := Lib.hid hs
      clear hs q0 hW
      go_wp2_with fail
      refine (DC.out _ (HP.out.below BW5.out)).mono ?_
      rintro e w6 ⟨rfl, b6⟩
      have HS6 := (sl_set HS.out c' hp)
      have q2 := text_conv ((HS6.on b6).alloc (.cells #[.string ⟨#[]⟩, .int .i64 0, .int .i64 0, .int .i64 0, .int .i64 0, .int .i64 0, .slice none 0 0, .slice none 0 0] 25))
      have BW6 := Lib.hid (BW5.out.trans (b6.mono BW5.out.size))
      clear b6 HS6 q1
      unfold zMeV
      go_wp2_with fail
      refine (DMK.out _).mono ?_
      rintro e w7 ⟨rfl, b7⟩
      go_wp2
      go_ret
      exact ⟨rfl, (BW6.out.alloc BW6.out.size _).trans (b7.mono (by have := BW6.out.size; simp; omega))⟩
    · skip
      have EMx := Lib.hid (EMt.out rfl)
      clear EMt ENf
      go_enter Tryd.func5, Tryd.ntmps5
      go_wp2_with fail
      refine (MA.out _).mono ?_
      rintro e w1 ⟨vf, vs, rfl, sf, ss, b1⟩
      have MR := Lib.hid (show MeR w1 x vf vs from ⟨Rd.of_sl sf, Rd.of_sl ss, HSM.out⟩)
      obtain ⟨af1, kf1, rfl⟩ := sf.slice
      obtain ⟨av1, kv1, rfl⟩ := ss.slice
      have BW1 := Lib.hid (((Below.refl w.heap.size w).alloc (Nat.le_refl _) _).trans (b1.mono (by simp)))
      have z1 := BW1.out.size
      clear sf ss b1
      unfold meV
      go_wp2_with fail
      refine (EN.out _ _ _ (MR.out.on ((Below.refl _ _).alloc (Nat.le_refl _) _))).mono ?_
      rintro e w2 ⟨rfl, b2⟩
      have hb2 := (b2.block w1.heap.size (by simp)).trans (heap_alloc_new w1 _)
      obtain ⟨p0, p1, p2, p3, p4, p5, p6, p7⟩ := cells8 hb2
      have BW2 := Lib.hid ((BW1.out.alloc z1 _).trans (b2.mono (by simp; omega)))
      clear hb2 b2
      go_wp2_with fail
      refine (EMx.out _).mono ?_
      rintro e w3 ⟨rfl, b3⟩
      have BW3 := Lib.hid (BW2.out.trans (b3.mono BW2.out.size))
      clear b3 p0 p1 p2 p3 p4 p5 p6 p7
      go_wp2_with fail
      refine (mawake_any _).mono ?_
      rintro e w4 ⟨rfl, b4⟩
      have BW4 := Lib.hid (BW3.out.trans (b4.mono BW3.out.size))
      clear b4
      obtain ⟨g, o, cap, W, hcv, hn, hcap, hs, hW⟩ := bytes_at w4 T hm (by omega)
      have p0 := sl_cell hs p c hc
      have f0 : W.frozen? ⟨g, o + p, none⟩ = false := by
        rcases hs.2 with ⟨h0, _⟩ | ⟨g', off', cap', he, _, _, _, _, hfree, _⟩
        · cases h0
        · cases he; exact (hfree p (by omega)).2
      have q0 := sl_set hs c' hp
      have q1 := text_conv q0
      have hg := (hs.lt g rfl).1
      have BW5 := Lib.hid ((BW4.out.trans (hW.mono BW4.out.size)).setCell (p := ⟨g, o + p, none⟩) (Nat.le_trans BW4.out.size hg) (.int .u8 c'.toNat))
      have HS := Lib.hid hs
      clear hs q0 hW
      go_wp2_with fail
      refine (DC.out _ (HP.out.below BW5.out)).mono ?_
      rintro e w6 ⟨rfl, b6⟩
      have HS6 := (sl_set HS.out c' hp)
      have q2 := text_conv ((HS6.on b6).alloc (.cells #[.string ⟨#[]⟩, .int .i64 0, .int .i64 0, .int .i64 0, .int .i64 0, .int .i64 0, .slice none 0 0, .slice none 0 0] 25))
      have BW6 := Lib.hid (BW5.out.trans (b6.mono BW5.out.size))
      clear b6 HS6 q1
      unfold zMeV
      go_wp2_with fail
      refine (DMK.out _).mono ?_
      rintro e w7 ⟨rfl, b7⟩
      go_wp2
      go_ret
      exact ⟨rfl, (BW6.out.alloc BW6.out.size _).trans (b7.mono (by have := BW6.out.size; simp; omega))⟩
end Go.Proofs.YtllomnniopocgaaDoor
