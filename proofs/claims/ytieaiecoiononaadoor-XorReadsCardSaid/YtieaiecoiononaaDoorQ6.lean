/- The document's reader of samples, walked. -/
import Derived.Test.YtieaiecoiononaaDoorQ5
namespace Go.Proofs.YtieaiecoiononaaDoor
open Go.RowKit Go.Lib

theorem heads_of (q : List Xo.Sm) (h : Xo.Good q) : Leb.takeM (Xo.text q) 120 = (q.length, Leb.encU (Xo.bitsL q).length ++ Bt.pack (Xo.bitsL q), 0) ∧ Leb.takeM (Leb.encU (Xo.bitsL q).length ++ Bt.pack (Xo.bitsL q)) 1048576 = ((Xo.bitsL q).length, Bt.pack (Xo.bitsL q), 0) := by
  have h1 := h.1
  have h2 := Xo.bitsL_len q h
  refine ⟨?_, Xo.takeM_enc _ _ _ (by unfold Leb.two64; omega) (by omega)⟩
  unfold Xo.text
  rw [List.append_assoc]
  exact Xo.takeM_enc _ _ _ (by unfold Leb.two64; omega) (by omega)
theorem bits_back (b : List Bool) : (Bt.bitsOf (Bt.pack b)).take b.length = b := by
  rw [Bt.bitsOf_pack, List.take_left' rfl]

theorem fits_more {l : List Xo.Sm} {s : Xo.Sm} (h : Fits l) (hs : -9223372036854775808 ≤ s.1 ∧ s.1 ≤ 9223372036854775807 ∧ s.2 < 18446744073709551616) : Fits (l ++ [s]) := by
  intro x hx
  rcases List.mem_append.1 hx with hx | hx
  · exact h x hx
  · rw [List.mem_singleton.1 hx]; exact hs
theorem appAll_none : ∀ (l acc : List Xo.Sm), Xo.Good acc → Fits l → appAll acc l = 0 → Xo.Good (acc ++ l)
  | [], acc, h, _, _ => by simpa using h
  | s :: l, acc, h, hf, h0 => by
    unfold appAll at h0
    have hs := hf s (by simp)
    by_cases he : Xo.err acc s = 0
    · rw [if_neg (by omega)] at h0
      have := appAll_none l (acc ++ [s]) (Xo.good_snoc h hs.2.2 he) (fun x hx => hf x (by simp [hx])) h0
      rwa [List.append_assoc, List.singleton_append] at this
    · rw [if_pos he] at h0; exact absurd h0 he
theorem ofErr_none (l : List Xo.Sm) (hf : Fits l) (h : ofErr l = 0) : Xo.Good l := by
  have := appAll_none l [] Xo.good_nil hf h
  simpa using this

/-- What the document's reader answers: the samples whose bytes they are; nothing, if they are none's. -/
def RSam (s : List UInt8) (w : World) (e : Ending) (w' : World) : Prop :=
  Below w.heap.size w w' ∧ ((e = .returned (.tuple #[.slice none 0 0, .bool false]) ∧ ∀ q, Xo.Good q → Xo.text q ≠ s) ∨
    ∃ o a cap, e = .returned (.tuple #[.slice a o.length cap, .bool true]) ∧ Sl w' w.heap.size 2 (.slice a o.length cap) o.length (smc o) ∧ Xo.Good o ∧ Xo.text o = s)
theorem RSam.no {s : List UInt8} {w w' : World} {e : Ending} (hb : Below w.heap.size w w') (he : e = .returned (.tuple #[.slice none 0 0, .bool false])) (h : ∀ q, Xo.Good q → Xo.text q ≠ s) : RSam s w e w' := ⟨hb, .inl ⟨he, h⟩⟩

theorem sofar_len {l : List Bool} {o q : List Xo.Sm} {t : Xo.Tr} {p : Nat} (h : Xo.Sofar l o t p) (hg : Xo.Good q) (hl : l = Xo.bitsL q) (hn : o.length ≤ q.length) : p ≤ l.length := by
  obtain ⟨ho, _, hp⟩ := h q hg hl hn
  obtain ⟨b, hb⟩ := Xo.bitsL_prefix (q.take o.length) (q.drop o.length)
  rw [List.take_append_drop, ← ho] at hb
  rw [hl, hb, List.length_append]
  omega

set_option maxHeartbeats 40000000 in
set_option maxRecDepth 100000 in
theorem rsamples_any (s : List UInt8) (w : World) (hs : s.length ≤ 200) :
    Calls Tryd.prog 14 #[.string (bs s)] w (RSam s w) := by
  obtain ⟨i0, hi, hz0, hz1, hz2⟩ := info_parts zc_sm
  have Hz := Lib.hid hz0; have Hs := Lib.hid hz1; have Hb := Lib.hid hz2; have Hi := Lib.hid hi
  clear hz0 hz1 hz2 hi
  obtain ⟨⟨n, r1, e1⟩, h1⟩ : ∃ p, Leb.takeM s 120 = p := ⟨_, rfl⟩
  obtain ⟨-, -, s13, s14, -⟩ := Leb.takeM_small h1 (by decide)
  have hsz := bs_size s
  have T1 := Lib.hid (fun W => rtakeM_is (s := bs s) (most := 120) (u := n) (r := r1) (er := e1) (by rw [bs_list]; exact h1) W (by rw [hsz]; unfold maxLen; omega) (by decide) (by decide))
  have H1 := Lib.hid h1
  have B0 := Lib.hid (Below.refl w.heap.size w)
  clear hsz h1
  by_cases he1 : e1 = 0
  · subst he1
    obtain ⟨⟨m, r2, e2⟩, h2⟩ : ∃ p, Leb.takeM r1 1048576 = p := ⟨_, rfl⟩
    obtain ⟨-, -, s23, s24, -⟩ := Leb.takeM_small h2 (by decide)
    have hrz := bs_size r1
    have T2 := Lib.hid (fun W => rtakeM_is (s := bs r1) (most := 1048576) (u := m) (r := r2) (er := e2) (by rw [bs_list]; exact h2) W (by rw [hrz]; unfold maxLen; omega) (by decide) (by decide))
    have H2 := Lib.hid h2
    clear hrz h2
    by_cases he2 : e2 = 0
    · subst he2
      have hn : n ≤ 120 := by have := s14 rfl; omega
      have hm : m ≤ 1048576 := by have := s24 rfl; omega
      have hr2 := bs_size r2
      have hr2b : (bs r2).size ≤ 200 := by omega
      have OFC := Lib.hid (fun W => rof_any r2 m W (by omega) (by omega) (by omega))
      obtain ⟨LB, hLB⟩ : ∃ LB, LB = (Bt.bitsOf r2).take (max (m : Int) 0).toNat := ⟨_, rfl⟩
      rw [← hLB] at OFC
      have hbq : ∀ q, Xo.Good q → Xo.text q = s → q.length = n ∧ LB = Xo.bitsL q := fun q hg ht => by
        obtain ⟨k1, k2⟩ := heads_of q hg
        rw [ht, H1.out] at k1
        simp only [Prod.mk.injEq] at k1
        obtain ⟨rfl, rfl, _⟩ := k1
        rw [H2.out] at k2
        simp only [Prod.mk.injEq] at k2
        obtain ⟨rfl, rfl, _⟩ := k2
        refine ⟨rfl, ?_⟩
        rw [hLB, show (max (((Xo.bitsL q).length : Nat) : Int) 0).toNat = (Xo.bitsL q).length by omega]
        exact bits_back _
      obtain ⟨N, hN⟩ : ∃ N, N = LB.length := ⟨_, rfl⟩
      have hN2 : N ≤ 1600 := by rw [hN, hLB, List.length_take, Bt.bitsOf_length]; omega
      rw [← hN] at OFC
      have HN := Lib.hid hN
      have HBQ := Lib.hid hbq
      obtain ⟨R2, hR2⟩ : ∃ R, R = bs r2 := ⟨_, rfl⟩
      rw [← hR2] at OFC T2 hr2b
      clear hN hbq hLB hr2 hR2 s13 s14 s23 s24
      go_enter Tryd.func14, Tryd.ntmps14
      go_wp2_with fail
      refine (T1.out _).mono ?_
      rintro e _ ⟨rfl, n1, rfl⟩
      go_wp2_with fail
      refine (T2.out _).mono ?_
      rintro e _ ⟨rfl, n2, rfl⟩
      go_wp2_with fail
      refine (OFC.out _).mono ?_
      rintro e w5 ⟨gb, ob, cb, rfl, hsb, b5⟩
      have HB5 := Lib.hid (show Below w.heap.size w w5 from (below_draw B0.out (n1 + n2)).trans (b5.mono (Nat.le_refl _)))
      have HSB := Lib.hid hsb
      clear hsb b5
      go_wp2_with fail
      go_loopw [10, 11, 12, 13, 14, 15] (fun o' p' st' fr' wi' i' wr => ∃ (i p og oo oc : Nat) (o : List Xo.Sm) (t : Xo.Tr), i' = .int .i64 i ∧ i ≤ n ∧ p' = .int .i64 p ∧ p ≤ N + 1 ∧ o' = .slice (some ⟨og, oo, none⟩) i oc ∧ Sl wr w5.heap.size 2 (.slice (some ⟨og, oo, none⟩) i oc) i (smc o) ∧ Below w5.heap.size w5 wr ∧ st' = .int .i64 t.st ∧ fr' = .int .i64 t.a ∧ wi' = .int .i64 t.z ∧ -9223372036854775808 ≤ t.st ∧ t.st ≤ 9223372036854775807 ∧ t.a ≤ 63 ∧ t.z ≤ 64 ∧ Hid (Xo.Sofar LB o t p) ∧ Hid (Fits o) ∧ Hid (i ≠ 0 → o[i - 1]? = some (t.T, t.V)) ∧ Hid (i = 0 → p = 0 ∧ t = Xo.tr0)) (fun _ _ _ _ _ i' _ => n - (RowKit.intOf i').toNat)
      case atStart => exact ⟨0, 0, _, _, _, [], Xo.tr0, rfl, by omega, rfl, by omega, rfl, Sl.lit w5 w5.heap.size 2 0 #[] _ (Nat.le_refl _) (by decide) rfl, (Below.refl _ _).alloc (Nat.le_refl _) _, rfl, rfl, rfl, by decide, by decide, by decide, by decide, Xo.sofar_nil LB, (fun _ h => by cases h), (fun h => absurd rfl h), (fun _ => ⟨rfl, rfl⟩)⟩
      case round =>
        obtain ⟨i, p, og, oo, oc, o, t, rfl, hi, rfl, hp, rfl, hso, hb, rfl, rfl, rfl, hst0, hst1, hta, htz, hsf, hft, hlast, h00⟩ := hrel
        have hol : o.length = i := by have := hso.1; rw [smc_length] at this; omega
        have HOL := Lib.hid hol
        have hLB := HSB.out.on hb
        have HLB := Lib.hid hLB
        have hbz := hb.size
        have hNc : N ≤ cb := by
          rcases hLB.2 with ⟨h0, _⟩ | ⟨_, _, _, he, _, _, h1, _⟩
          · cases h0
          · cases he; exact h1
        have tk : ∀ p k, p ≤ 100000 → k ≤ 64 → ∃ v q, tkB LB p k = (v, q) ∧ v < 2 ^ k ∧ q ≤ N + 1 ∧ Hid (∀ W, Below wr.heap.size wr W → Calls Tryd.prog 30 #[.slice (some ⟨gb, ob, none⟩) N cb, .int .i64 p, .int .i64 k] W (fun e w' => e = .returned (.tuple #[.int .u64 v, .int .i64 q]) ∧ W = w')) := fun p k hp hk =>
          ⟨(tkB LB p k).1, (tkB LB p k).2, rfl, Xo.tkB_lt LB p k, by have := Xo.tkB_at_le LB p k; rw [← HN.out] at this; exact this, fun W b => rtake_any _ gb ob cb LB N p k W HN.out (HLB.out.on b) hp hk (by omega)⟩
        have TK := Lib.hid tk
        clear hol hLB tk
        by_cases hlt : i < n
        · by_cases hpl : p ≤ N
          · rcases Nat.eq_zero_or_pos i with hi0 | hi0
            · as_aux_lemma =>
                obtain ⟨rfl, rfl⟩ := h00.out hi0
                subst hi0
                have ho0 : o = [] := List.eq_nil_of_length_eq_zero HOL.out
                obtain ⟨t1, p1, hk1, l1, l2, C1⟩ := TK.out 0 41 (by omega) (by omega)
                obtain ⟨v1, p2, hk2, l3, l4, C2⟩ := TK.out p1 64 (by omega) (by omega)
                have hd : Xo.dFirst LB 0 = (⟨t1, v1, 0, 0, 0⟩, p2) := by unfold Xo.dFirst; rw [hk1]; simp only; rw [hk2]
                have HSF := Lib.hid (show Xo.Sofar LB [((t1 : Int), v1)] ⟨t1, v1, 0, 0, 0⟩ p2 by have := Xo.sofar_first (l := LB); rw [hd] at this; exact this)
                have hw1 : IntKind.i64.wrap (t1 : Int) = (t1 : Int) := by rw [IntKind.wrap_i64]; omega
                have HFT := Lib.hid (show Fits [((t1 : Int), v1)] from fun x hx => by rw [List.mem_singleton.1 hx]; simp only; omega)
                rw [ho0] at hso
                have HSO := Lib.hid hso
                have HB := Lib.hid hb
                have HRB := Lib.hid (Below.refl wr.heap.size wr)
                clear hd hk1 hk2 hso hb hsf hft hlast h00 ho0 TK
                go_wp2_with fail
                refine (C1.out _ HRB.out).mono ?_
                rintro e _ ⟨rfl, rfl⟩
                go_wp2_with fail
                refine (C2.out _ HRB.out).mono ?_
                rintro e _ ⟨rfl, rfl⟩
                go_wp2_with (at_builtin; go_loud (refine wpList_append_sl _ rfl _ _ 22 rfl w5.heap.size 25 i0 (.agg #[.int .i64 0, .int .u64 0]) 2 16 Tryd.underlying22 Hi.out Hz.out Hs.out Hb.out rfl (by decide) _ 0 _ rfl (HSO.out.alloc _) ⟨wr.heap.size, 0, none⟩ 1 1 [_, _] rfl rfl (two_cells _ _ _ _) (by simp [Value.oneCell']) (by unfold maxLen; omega) (by omega) (by simp; omega) ?_; intro v9 w9 x9; obtain ⟨og9, oo9, oc9, rfl, -⟩ := x9.now.somewhere (by omega); have bb9 := (HB.out.alloc hbz _).trans (x9.below (Nat.le_refl _) (by simp; omega)); have X9 := Lib.hid x9; clear x9))
                exact ⟨⟨1, p2, og9, oo9, oc9, [((t1 : Int), v1)], ⟨t1, v1, 0, 0, 0⟩, rfl, hlt, rfl, by omega, rfl, X9.out.now, bb9, rfl, rfl, rfl, by simp, by simp, by simp, by simp, HSF.out, HFT.out, (fun _ => rfl), (fun h => absurd h (by decide))⟩, by simp [RowKit.intOf]; omega⟩
            · obtain ⟨j, rfl⟩ : ∃ j, i = j + 1 := ⟨i - 1, by omega⟩
              have hl2 := hlast.out (by omega)
              rw [show j + 1 - 1 = j by omega] at hl2
              obtain ⟨c0, c1⟩ := sl_sms hso j t.T t.V hl2
              have hfT := hft.out _ (List.mem_of_getElem? hl2)
              simp only at hfT
              obtain ⟨hT0, hT1, hV⟩ := hfT
              have hone : o ≠ [] := by intro e; have := HOL.out; rw [e] at this; simp at this
              have hjw : IntKind.i64.wrap (j : Int) = (j : Int) := by rw [IntKind.wrap_i64]; omega
              have hj0 : ((j : Int) + 1 == 0) = false := by simp; omega
              have hjn : (j : Int) < (j : Int) + 1 := by omega
              have HSO := Lib.hid hso; have HB := Lib.hid hb; have HONE := Lib.hid hone; have HSF := hsf; have HFT := hft
              have BX := Lib.hid (show Below wr.heap.size wr (wr.alloc (.cells #[.int .i64 t.T, .int .u64 t.V] 25)) from (Below.refl _ _).alloc (Nat.le_refl _) _)
              obtain ⟨tT, hTT⟩ : ∃ x, x = t.T := ⟨_, rfl⟩
              obtain ⟨tV, hTV⟩ : ∃ x, x = t.V := ⟨_, rfl⟩
              obtain ⟨tS, hTS⟩ : ∃ x, x = t.st := ⟨_, rfl⟩
              obtain ⟨tA, hTA⟩ : ∃ x, x = t.a := ⟨_, rfl⟩
              obtain ⟨tZ, hTZ⟩ : ∃ x, x = t.z := ⟨_, rfl⟩
              have HTT := Lib.hid (show t = ⟨tT, tV, tS, tA, tZ⟩ by rw [hTT, hTV, hTS, hTA, hTZ])
              rw [← hTT, ← hTV] at BX
              rw [← hTT] at c0 hT0 hT1
              rw [← hTV] at c1 hV
              rw [← hTS] at hst0 hst1
              rw [← hTA] at hta
              rw [← hTZ] at htz
              rw [← hTS, ← hTA, ← hTZ]
              have hLBa := HLB.out.on BX.out
              have HLBA := Lib.hid hLBa
              clear hso hb hsf hft hlast h00 hl2 hone hTT hTV hTS hTA hTZ hLBa
              go_wp2_with fail
              obtain ⟨W, hW⟩ : ∃ W, W = wr.alloc (.cells #[.int .i64 tT, .int .u64 tV] 25) := ⟨_, rfl⟩
              have g0 : W.cell? ⟨wr.heap.size, 0, none⟩ = some (.int .i64 tT) := by rw [hW]; simp
              have g1 : W.cell? ⟨wr.heap.size, 1, none⟩ = some (.int .u64 tV) := by rw [hW]; simp
              have gz : W.heap.size = wr.heap.size + 1 := by rw [hW]; simp
              rw [← hW] at BX HLBA ⊢
              have GZ := Lib.hid gz
              clear hW gz c0 c1
              go_loopw [21, 11] (fun k' p' w2 => ∃ (q pq : Nat), k' = .int .i64 q ∧ p' = .int .i64 pq ∧ q ≤ 4 ∧ pq ≤ N ∧ Hid (pq = p + q ∧ Xo.kF LB 4 p = q + Xo.kF LB (4 - q) pq) ∧ W = w2) (fun k' _ _ => 4 - (RowKit.intOf k').toNat)
              case atStart => exact ⟨0, p, rfl, rfl, by omega, hpl, ⟨rfl, by simp⟩, rfl⟩
              case round =>
                obtain ⟨q, pq, rfl, rfl, hq, hpq, hkf, rfl⟩ := hrel
                have hdec := Xo.kF_dec LB p q pq N HN.out hq hpq hkf.out.1 hkf.out.2
                have HKF := Lib.hid hkf.out
                clear hkf
                rcases hdec with ⟨h4, hN', hbit, hkn⟩ | ⟨P1, hk, hd, hP1, hex⟩
                · have hc := sl_bool HLBA.out pq true hbit
                  have q4 : decide ((q : Int) < 4) = true := by simp; omega
                  have qN : decide (pq < N) = true := by simp; omega
                  have HKN := Lib.hid hkn
                  clear hbit hkn
                  go_wp2
                  exact ⟨⟨q + 1, pq + 1, by go_num, by go_num, by omega, by omega, ⟨by have := HKF.out.1; omega, HKN.out⟩, by trivial⟩, by simp [RowKit.intOf]; omega⟩
                · obtain ⟨z, hz⟩ : ∃ z, z = Xo.wd q := ⟨_, rfl⟩
                  have hz64 : z ≤ 64 := by rw [hz]; exact Xo.wd_le q
                  have SQ := Lib.hid (fun W => show Calls Tryd.prog 31 #[.int .i64 q] W (fun e w' => e = .returned (.int .i64 z) ∧ W = w') by rw [hz]; exact rsize_any q W hq)
                  obtain ⟨u, p2, hk1, l1, l2, D1⟩ := TK.out P1 z (by omega) hz64
                  have hu64 : u < 18446744073709551616 := Nat.lt_of_lt_of_le l1 (Nat.pow_le_pow_right (n := 2) (by decide) hz64)
                  obtain ⟨uf, huf⟩ : ∃ uf, uf = Leb.unfoldN u := ⟨_, rfl⟩
                  have huf0 : -9223372036854775808 ≤ uf ∧ uf ≤ 9223372036854775807 := by rw [huf]; unfold Leb.unfoldN; split <;> omega
                  have UF := Lib.hid (fun W => show Calls Tryd.prog 32 #[.int .u64 u] W (fun e w' => e = .returned (.int .i64 uf) ∧ W = w') by rw [huf]; unfold Leb.unfoldN; exact runfold_any u W hu64)
                  obtain ⟨ST, hST⟩ : ∃ ST, ST = Xo.wrapI (tS + uf) := ⟨_, rfl⟩
                  have hs1 : IntKind.i64.wrap (tS + uf) = ST := by rw [hST]; exact wrapI_w _
                  have hs2 : wrap64 (tS + uf) = ST := by rw [hST]; exact wrapI_64 _
                  have hSb := wrapI_bd (tS + uf)
                  rw [← hST] at hSb
                  obtain ⟨hSb0, hSb1⟩ := hSb
                  obtain ⟨huf1, huf2⟩ := huf0
                  obtain ⟨sm, p3, hk2, l3, l4, D2⟩ := TK.out p2 1 (by omega) (by omega)
                  have HCH := Lib.hid (show Xo.dCh LB p = (u, p2) by unfold Xo.dCh; rw [hd, hk, ← hz]; exact hk1)
                  have HK2 := Lib.hid hk2; have HST := Lib.hid hST; have HUF := Lib.hid huf
                  have HS2 := Lib.hid hs2
                  clear hz hk1 hk2 hST huf hs2 hk hd l1 HKF
                  rcases hex with ⟨h4, hP⟩ | ⟨h4, hN', hbit, e1⟩ | ⟨h4, hN', e1⟩
                  case' inr.inl =>
                    obtain rfl := hP
                    have q4 : decide ((q : Int) < 4) = false := by simp; omega
                    clear h4
                    go_wp2_with fail
                  case' inr.inr.inl =>
                    have hc := sl_bool HLBA.out pq false hbit
                    have q4 : decide ((q : Int) < 4) = true := by simp; omega
                    have qN : decide (pq < N) = true := by simp; omega
                    clear h4 hbit
                    go_wp2_with fail
                  case' inr.inr.inr =>
                    have q4 : decide ((q : Int) < 4) = true := by simp; omega
                    have qN : decide (pq < N) = false := by simp; omega
                    clear h4
                    go_wp2_with fail
                  all_goals
                    refine (SQ.out _).mono ?_
                    rintro e _ ⟨rfl, rfl⟩
                    go_wp2_with fail
                    refine (D1.out _ BX.out).mono ?_
                    rintro e _ ⟨rfl, rfl⟩
                    go_wp2_with fail
                    refine (UF.out _).mono ?_
                    rintro e _ ⟨rfl, rfl⟩
                    go_wp2_with fail
                    refine (D2.out _ BX.out).mono ?_
                    rintro e _ ⟨rfl, rfl⟩
                    obtain ⟨T2, hT2⟩ : ∃ T2, T2 = Xo.wrapI (tT + ST) := ⟨_, rfl⟩
                    have hT3 : wrap64 (tT + ST) = T2 := by rw [hT2]; exact wrapI_64 _
                    have hTb := wrapI_bd (tT + ST)
                    rw [← hT2] at hTb
                    obtain ⟨hTb0, hTb1⟩ := hTb
                    have HT2 := Lib.hid hT2
                    have SOW := Lib.hid (HSO.out.on BX.out)
                    have BBW := Lib.hid (HB.out.trans (BX.out.mono hbz))
                    have zzW := BBW.out.size
                    clear hT2
                    by_cases hs1' : sm = 1
                    · have z0 : ((sm : Int) == 1) = true := by simp; omega
                      obtain ⟨an, p4, hk4, l5, l6, D4⟩ := TK.out p3 1 (by omega) (by omega)
                      by_cases han : an = 1
                      · as_aux_lemma =>
                          have z00 : ((an : Int) == 1) = true := by simp; omega
                          obtain ⟨a, p5, hk5, l7, l8, D5⟩ := TK.out p4 6 (by omega) (by omega)
                          obtain ⟨b, p6, hk6, l9, l10, D6⟩ := TK.out p5 6 (by omega) (by omega)
                          obtain ⟨Zw, hZw⟩ : ∃ Zw : Nat, (b : Int) + 1 = (Zw : Int) := ⟨b + 1, by omega⟩
                          have hZ2 : b + 1 = Zw := by omega
                          have hwa : IntKind.i64.wrap (a : Int) = (a : Int) := by rw [IntKind.wrap_i64]; omega
                          have hwb : IntKind.i64.wrap (b : Int) = (b : Int) := by rw [IntKind.wrap_i64]; omega
                          have HHD := Lib.hid (show Xo.dHd LB tA tZ p3 = (a, Zw, p6) by
                            unfold Xo.dHd
                            rw [hk4]
                            simp only
                            rw [if_pos han, hk5]
                            simp only
                            rw [hk6, hZ2])
                          have hZ3 : Zw ≤ 64 := by omega
                          have ha3 : a ≤ 63 := by omega
                          clear hk4 hk5 hk6 hZ2 han
                          go_wp2_with fail
                          refine (D4.out _ BX.out).mono ?_
                          rintro e _ ⟨rfl, rfl⟩
                          go_wp2_with fail
                          refine (D5.out _ BX.out).mono ?_
                          rintro e _ ⟨rfl, rfl⟩
                          go_wp2_with fail
                          refine (D6.out _ BX.out).mono ?_
                          rintro e _ ⟨rfl, rfl⟩
                          by_cases hbad : Zw = 0 ∨ a + Zw > 64
                          · have hdn : Xo.dNext LB t p = none := by
                              unfold Xo.dNext Xo.dX
                              rw [HTT.out, HCH.out]
                              simp only
                              rw [HK2.out]
                              simp only
                              rw [if_pos hs1', HHD.out]
                              simp only
                              rw [if_pos hbad]
                            have HNO := Lib.hid (show ∀ y, Xo.Good y → Xo.text y ≠ s from fun y hg ht => by
                              obtain ⟨y1, y2⟩ := HBQ.out y hg ht
                              have := Xo.sofar_none HSF.out HONE.out hdn y hg y2
                              have := HOL.out
                              omega)
                            have hbd : (Zw = 0) ∨ (¬ Zw = 0 ∧ a + Zw > 64) := by omega
                            clear hdn hbad
                            rcases hbd with hb1 | ⟨hb1, hb2⟩
                            · have z1 : ((Zw : Int) == 0) = true := by simp; omega
                              go_wp2_with fail
                              go_ret2
                              exact RSam.no (HB5.out.trans (BBW.out.mono HB5.out.size)) rfl HNO.out
                            · have z1 : ((Zw : Int) == 0) = false := by simp; omega
                              have z2 : decide ((64 : Int) < (a : Int) + (Zw : Int)) = true := by simp; omega
                              go_wp2_with fail
                              go_ret2
                              exact RSam.no (HB5.out.trans (BBW.out.mono HB5.out.size)) rfl HNO.out
                          · have hb1 : ¬ Zw = 0 := by omega
                            have hb2 : a + Zw ≤ 64 := by omega
                            have z1 : ((Zw : Int) == 0) = false := by simp; omega
                            have z2 : decide ((64 : Int) < (a : Int) + (Zw : Int)) = false := by simp; omega
                            obtain ⟨v, p7, hk7, l11, l12, D7⟩ := TK.out p6 Zw (by omega) (by omega)
                            obtain ⟨DD, hDD⟩ : ∃ DD, DD = 64 - a - Zw := ⟨_, rfl⟩
                            have hD : (64 : Int) - (a : Int) - (Zw : Int) = (DD : Int) := by omega
                            have hvm : ∀ d, d ≤ DD → v * 2 ^ d < 18446744073709551616 := fun d hd => by
                              have h1 : v * 2 ^ d < 2 ^ Zw * 2 ^ d := Nat.mul_lt_mul_of_pos_right l11 (Nat.two_pow_pos d)
                              rw [← Nat.pow_add] at h1
                              exact Nat.lt_of_lt_of_le h1 (Nat.pow_le_pow_right (n := 2) (by decide) (show Zw + d ≤ 64 by omega))
                            have HVM := Lib.hid hvm
                            have hv64 : v < 18446744073709551616 := by have := hvm 0 (by omega); simpa using this
                            obtain ⟨x, hx⟩ : ∃ x, x = v * 2 ^ DD := ⟨_, rfl⟩
                            have hx64 : x < 18446744073709551616 := by rw [hx]; exact hvm DD (Nat.le_refl _)
                            obtain ⟨y, hy⟩ : ∃ y, y = tV ^^^ x := ⟨_, rfl⟩
                            have hy64 : y < 18446744073709551616 := by rw [hy]; exact Xo.xor_lt hV hx64
                            have hX : bits .xor .u64 (tV : Int) (x : Int) = (y : Int) := by rw [hy]; exact bits_xor_u64_nat tV x hV hx64
                            have hdn : Xo.dNext LB t p = some (⟨T2, y, ST, a, Zw⟩, p7) := by
                              unfold Xo.dNext Xo.dX
                              rw [HTT.out, HCH.out]
                              simp only
                              rw [HK2.out]
                              simp only
                              rw [if_pos hs1', HHD.out]
                              simp only
                              rw [if_neg hbad, hk7, ← HUF.out, ← HST.out, ← HT2.out, ← hDD]
                              simp only
                              rw [← hx, ← hy]
                            have SF := Lib.hid (Xo.sofar_next HSF.out HONE.out hdn)
                            have HX := Lib.hid hx
                            clear hdn hbad hk7 hDD hvm hx hy l11
                            go_wp2_with fail
                            refine (D7.out _ BX.out).mono ?_
                            rintro e _ ⟨rfl, rfl⟩
                            go_wp2_with fail
                            go_loopw [32, 34] (fun v' j' w2 => ∃ (d vv : Nat), j' = .int .i64 d ∧ d ≤ DD ∧ v' = .int .u64 vv ∧ vv < 18446744073709551616 ∧ Hid (vv = v * 2 ^ d) ∧ W = w2) (fun _ j' _ => DD - (RowKit.intOf j').toNat)
                            case atStart => exact ⟨0, v, rfl, by omega, rfl, hv64, by simp [Hid], rfl⟩
                            case round =>
                              obtain ⟨d, vv, rfl, hd, rfl, hvv, hve, rfl⟩ := hrel
                              have HVE := Lib.hid hve.out
                              clear hve
                              by_cases hdl : d < DD
                              · have hlt2 : 2 * vv < 18446744073709551616 := by
                                  have := HVM.out (d + 1) (by omega)
                                  rw [Nat.pow_succ, ← Nat.mul_assoc, ← HVE.out] at this
                                  omega
                                have hw2 : IntKind.u64.wrap (2 * (vv : Int)) = ((2 * vv : Nat) : Int) := by rw [IntKind.wrap_u64]; omega
                                have dd : decide (d < DD) = true := by simp; omega
                                clear hX
                                go_wp2_with fail
                                exact ⟨⟨d + 1, 2 * vv, by go_num, by omega, by go_num, hlt2, by show _ = _; rw [HVE.out, Nat.pow_succ]; ac_rfl, by trivial⟩, by simp [RowKit.intOf]; omega⟩
                              · have hde : d = DD := by omega
                                have hvx : x = vv := by rw [HVE.out, HX.out, hde]
                                subst hvx
                                have dd : decide (d < DD) = false := by simp; omega
                                clear hde
                                go_wp2_with (at_builtin; go_loud (refine wpList_append_sl _ rfl _ _ 22 rfl w5.heap.size 25 i0 (.agg #[.int .i64 0, .int .u64 0]) 2 16 Tryd.underlying22 Hi.out Hz.out Hs.out Hb.out rfl (by decide) _ (j + 1) _ rfl (SOW.out.alloc _) ⟨W.heap.size, 0, none⟩ 1 1 [_, _] rfl rfl (two_cells _ _ _ _) (by simp [Value.oneCell']) (by unfold maxLen; omega) (by omega) (by simp; omega) ?_; intro v9 w9 x9; obtain ⟨og9, oo9, oc9, rfl, -⟩ := x9.now.somewhere (by omega); have bb9 := (BBW.out.alloc zzW _).trans (x9.below (Nat.le_refl _) (by simp; omega)); have X9 := Lib.hid x9; clear x9))
                                exact ⟨⟨j + 1 + 1, p7, og9, oo9, oc9, o ++ [(T2, y)], ⟨T2, y, ST, a, Zw⟩, by go_num, hlt, rfl, by omega, rfl, by rw [smc_append]; exact X9.out.now, bb9, rfl, rfl, rfl, hSb0, hSb1, by simp only; omega, by simp only; omega, SF.out, fits_more HFT.out (by simp only; omega), (fun _ => by rw [show j + 1 + 1 - 1 = o.length by rw [HOL.out]; rfl, List.getElem?_append_right (Nat.le_refl _), Nat.sub_self]; rfl), (fun h => absurd h (by omega))⟩, by simp [RowKit.intOf]; omega⟩
                      · as_aux_lemma =>
                          have z00 : ((an : Int) == 1) = false := by simp; omega
                          have HHD := Lib.hid (show Xo.dHd LB tA tZ p3 = (tA, tZ, p4) by
                            unfold Xo.dHd
                            rw [hk4]
                            simp only
                            rw [if_neg han])
                          clear hk4 han
                          go_wp2_with fail
                          refine (D4.out _ BX.out).mono ?_
                          rintro e _ ⟨rfl, rfl⟩
                          by_cases hbad : tZ = 0 ∨ tA + tZ > 64
                          · have hdn : Xo.dNext LB t p = none := by
                              unfold Xo.dNext Xo.dX
                              rw [HTT.out, HCH.out]
                              simp only
                              rw [HK2.out]
                              simp only
                              rw [if_pos hs1', HHD.out]
                              simp only
                              rw [if_pos hbad]
                            have HNO := Lib.hid (show ∀ y, Xo.Good y → Xo.text y ≠ s from fun y hg ht => by
                              obtain ⟨y1, y2⟩ := HBQ.out y hg ht
                              have := Xo.sofar_none HSF.out HONE.out hdn y hg y2
                              have := HOL.out
                              omega)
                            have hbd : (tZ = 0) ∨ (¬ tZ = 0 ∧ tA + tZ > 64) := by omega
                            clear hdn hbad
                            rcases hbd with hb1 | ⟨hb1, hb2⟩
                            · have z1 : ((tZ : Int) == 0) = true := by simp; omega
                              go_wp2_with fail
                              go_ret2
                              exact RSam.no (HB5.out.trans (BBW.out.mono HB5.out.size)) rfl HNO.out
                            · have z1 : ((tZ : Int) == 0) = false := by simp; omega
                              have z2 : decide ((64 : Int) < (tA : Int) + (tZ : Int)) = true := by simp; omega
                              go_wp2_with fail
                              go_ret2
                              exact RSam.no (HB5.out.trans (BBW.out.mono HB5.out.size)) rfl HNO.out
                          · have hb1 : ¬ tZ = 0 := by omega
                            have hb2 : tA + tZ ≤ 64 := by omega
                            have z1 : ((tZ : Int) == 0) = false := by simp; omega
                            have z2 : decide ((64 : Int) < (tA : Int) + (tZ : Int)) = false := by simp; omega
                            obtain ⟨v, p7, hk7, l11, l12, D7⟩ := TK.out p4 tZ (by omega) (by omega)
                            obtain ⟨DD, hDD⟩ : ∃ DD, DD = 64 - tA - tZ := ⟨_, rfl⟩
                            have hD : (64 : Int) - (tA : Int) - (tZ : Int) = (DD : Int) := by omega
                            have hvm : ∀ d, d ≤ DD → v * 2 ^ d < 18446744073709551616 := fun d hd => by
                              have h1 : v * 2 ^ d < 2 ^ tZ * 2 ^ d := Nat.mul_lt_mul_of_pos_right l11 (Nat.two_pow_pos d)
                              rw [← Nat.pow_add] at h1
                              exact Nat.lt_of_lt_of_le h1 (Nat.pow_le_pow_right (n := 2) (by decide) (show tZ + d ≤ 64 by omega))
                            have HVM := Lib.hid hvm
                            have hv64 : v < 18446744073709551616 := by have := hvm 0 (by omega); simpa using this
                            obtain ⟨x, hx⟩ : ∃ x, x = v * 2 ^ DD := ⟨_, rfl⟩
                            have hx64 : x < 18446744073709551616 := by rw [hx]; exact hvm DD (Nat.le_refl _)
                            obtain ⟨y, hy⟩ : ∃ y, y = tV ^^^ x := ⟨_, rfl⟩
                            have hy64 : y < 18446744073709551616 := by rw [hy]; exact Xo.xor_lt hV hx64
                            have hX : bits .xor .u64 (tV : Int) (x : Int) = (y : Int) := by rw [hy]; exact bits_xor_u64_nat tV x hV hx64
                            have hdn : Xo.dNext LB t p = some (⟨T2, y, ST, tA, tZ⟩, p7) := by
                              unfold Xo.dNext Xo.dX
                              rw [HTT.out, HCH.out]
                              simp only
                              rw [HK2.out]
                              simp only
                              rw [if_pos hs1', HHD.out]
                              simp only
                              rw [if_neg hbad, hk7, ← HUF.out, ← HST.out, ← HT2.out, ← hDD]
                              simp only
                              rw [← hx, ← hy]
                            have SF := Lib.hid (Xo.sofar_next HSF.out HONE.out hdn)
                            have HX := Lib.hid hx
                            clear hdn hbad hk7 hDD hvm hx hy l11
                            go_wp2_with fail
                            refine (D7.out _ BX.out).mono ?_
                            rintro e _ ⟨rfl, rfl⟩
                            go_wp2_with fail
                            go_loopw [32, 34] (fun v' j' w2 => ∃ (d vv : Nat), j' = .int .i64 d ∧ d ≤ DD ∧ v' = .int .u64 vv ∧ vv < 18446744073709551616 ∧ Hid (vv = v * 2 ^ d) ∧ W = w2) (fun _ j' _ => DD - (RowKit.intOf j').toNat)
                            case atStart => exact ⟨0, v, rfl, by omega, rfl, hv64, by simp [Hid], rfl⟩
                            case round =>
                              obtain ⟨d, vv, rfl, hd, rfl, hvv, hve, rfl⟩ := hrel
                              have HVE := Lib.hid hve.out
                              clear hve
                              by_cases hdl : d < DD
                              · have hlt2 : 2 * vv < 18446744073709551616 := by
                                  have := HVM.out (d + 1) (by omega)
                                  rw [Nat.pow_succ, ← Nat.mul_assoc, ← HVE.out] at this
                                  omega
                                have hw2 : IntKind.u64.wrap (2 * (vv : Int)) = ((2 * vv : Nat) : Int) := by rw [IntKind.wrap_u64]; omega
                                have dd : decide (d < DD) = true := by simp; omega
                                clear hX
                                go_wp2_with fail
                                exact ⟨⟨d + 1, 2 * vv, by go_num, by omega, by go_num, hlt2, by show _ = _; rw [HVE.out, Nat.pow_succ]; ac_rfl, by trivial⟩, by simp [RowKit.intOf]; omega⟩
                              · have hde : d = DD := by omega
                                have hvx : x = vv := by rw [HVE.out, HX.out, hde]
                                subst hvx
                                have dd : decide (d < DD) = false := by simp; omega
                                clear hde
                                go_wp2_with (at_builtin; go_loud (refine wpList_append_sl _ rfl _ _ 22 rfl w5.heap.size 25 i0 (.agg #[.int .i64 0, .int .u64 0]) 2 16 Tryd.underlying22 Hi.out Hz.out Hs.out Hb.out rfl (by decide) _ (j + 1) _ rfl (SOW.out.alloc _) ⟨W.heap.size, 0, none⟩ 1 1 [_, _] rfl rfl (two_cells _ _ _ _) (by simp [Value.oneCell']) (by unfold maxLen; omega) (by omega) (by simp; omega) ?_; intro v9 w9 x9; obtain ⟨og9, oo9, oc9, rfl, -⟩ := x9.now.somewhere (by omega); have bb9 := (BBW.out.alloc zzW _).trans (x9.below (Nat.le_refl _) (by simp; omega)); have X9 := Lib.hid x9; clear x9))
                                exact ⟨⟨j + 1 + 1, p7, og9, oo9, oc9, o ++ [(T2, y)], ⟨T2, y, ST, tA, tZ⟩, by go_num, hlt, rfl, by omega, rfl, by rw [smc_append]; exact X9.out.now, bb9, rfl, rfl, rfl, hSb0, hSb1, by simp only; omega, by simp only; omega, SF.out, fits_more HFT.out (by simp only; omega), (fun _ => by rw [show j + 1 + 1 - 1 = o.length by rw [HOL.out]; rfl, List.getElem?_append_right (Nat.le_refl _), Nat.sub_self]; rfl), (fun h => absurd h (by omega))⟩, by simp [RowKit.intOf]; omega⟩
                    · as_aux_lemma =>
                        have hs0 : sm = 0 := by omega
                        subst hs0
                        have hX : bits .xor .u64 (tV : Int) 0 = (tV : Int) := by
                          have := bits_xor_u64_nat tV 0 hV (by decide)
                          rw [Nat.xor_zero] at this
                          exact this
                        have hdn : Xo.dNext LB t p = some (⟨T2, tV, ST, tA, tZ⟩, p3) := by
                          unfold Xo.dNext Xo.dX
                          rw [HTT.out, HCH.out]
                          simp only
                          rw [HK2.out]
                          simp only
                          rw [if_neg (by decide)]
                          simp only
                          rw [Nat.xor_zero, ← HUF.out, ← HST.out, ← HT2.out]
                        have SF := Lib.hid (Xo.sofar_next HSF.out HONE.out hdn)
                        clear hdn hs1'
                        go_wp2_with (at_builtin; go_loud (refine wpList_append_sl _ rfl _ _ 22 rfl w5.heap.size 25 i0 (.agg #[.int .i64 0, .int .u64 0]) 2 16 Tryd.underlying22 Hi.out Hz.out Hs.out Hb.out rfl (by decide) _ (j + 1) _ rfl (SOW.out.alloc _) ⟨W.heap.size, 0, none⟩ 1 1 [_, _] rfl rfl (two_cells _ _ _ _) (by simp [Value.oneCell']) (by unfold maxLen; omega) (by omega) (by simp; omega) ?_; intro v9 w9 x9; obtain ⟨og9, oo9, oc9, rfl, -⟩ := x9.now.somewhere (by omega); have bb9 := (BBW.out.alloc zzW _).trans (x9.below (Nat.le_refl _) (by simp; omega)); have X9 := Lib.hid x9; clear x9))
                        exact ⟨⟨j + 1 + 1, p3, og9, oo9, oc9, o ++ [(T2, tV)], ⟨T2, tV, ST, tA, tZ⟩, by go_num, hlt, rfl, by omega, rfl, by rw [smc_append]; exact X9.out.now, bb9, rfl, rfl, rfl, hSb0, hSb1, by simp only; omega, by simp only; omega, SF.out, fits_more HFT.out (by simp only; omega), (fun _ => by rw [show j + 1 + 1 - 1 = o.length by rw [HOL.out]; rfl, List.getElem?_append_right (Nat.le_refl _), Nat.sub_self]; rfl), (fun h => absurd h (by omega))⟩, by simp [RowKit.intOf]; omega⟩
          · have HNO := Lib.hid (show ∀ y, Xo.Good y → Xo.text y ≠ s from fun y hg ht => by
              obtain ⟨y1, y2⟩ := HBQ.out y hg ht
              have := sofar_len hsf.out hg y2 (by have := HOL.out; omega)
              have := HN.out
              omega)
            have HB := Lib.hid hb
            have d1 : decide (i < n) = true := by simp; omega
            have d2 : decide (p ≤ N) = false := by simp; omega
            have d3 : decide (N < p) = true := by simp; omega
            clear hso hb hsf hft hlast h00 hpl hlt TK
            go_wp2_with fail
            go_ret2
            exact RSam.no (HB5.out.trans (HB.out.mono HB5.out.size)) rfl HNO.out
        · as_aux_lemma =>
            have hin : i = n := by omega
            subst hin
            have d1 : decide (i < i) = false := by simp
            by_cases hpl : p ≤ N
            · have d3 : decide (N < p) = false := by simp; omega
              have d2 : decide (p ≤ N) = true := by simp; omega
              have HB := Lib.hid hb; have HSO := Lib.hid hso
              have GO := Lib.hid (rgood_any (some ⟨og, oo, none⟩) oc o i wr HOL.out.symm (Rd.of_sl hso) hft.out (by have := HOL.out; omega))
              have HY := Lib.hid (fun y hg ht => show o = y by
                obtain ⟨y1, y2⟩ := HBQ.out y hg ht
                have := (hsf.out y hg y2 (by have := HOL.out; omega)).1
                rw [List.take_of_length_le (by have := HOL.out; omega)] at this
                exact this)
              obtain ⟨er, her⟩ : ∃ er, er = ofErr o := ⟨_, rfl⟩
              rw [← her] at GO
              by_cases he : er = 0
              · have hgo := ofErr_none o hft.out (by rw [← her]; exact he)
                have hez : ((er : Int) != 0) = false := by simp; omega
                have RT := Lib.hid (fun W (b : Below wr.heap.size wr W) => rtext07_any (some ⟨og, oo, none⟩) oc o i W HOL.out.symm (Rd.of_sl (HSO.out.on b)) hgo)
                have HGO := Lib.hid hgo
                obtain ⟨TX, hTX⟩ : ∃ TX, TX = bs (Xo.text o) := ⟨_, rfl⟩
                rw [← hTX] at RT
                have htl : TX.toList = Xo.text o := by rw [hTX]; exact bs_toList _
                have hsl : (bs s).toList = s := bs_toList s
                by_cases hq : Xo.text o = s
                · have q1 : (TX.toList == (bs s).toList) = true := by rw [htl, hsl, hq]; simp
                  have q2 : (TX.toList != (bs s).toList) = false := by rw [htl, hsl, hq]; simp
                  have HQ := Lib.hid hq
                  clear hso hb hsf hft hlast h00 hlt TK her he hgo hTX htl hsl hq HY
                  go_wp2_with fail
                  refine GO.out.mono ?_
                  rintro e w6 ⟨rfl, b6⟩
                  have B6 := Lib.hid b6
                  clear b6
                  go_wp2_with fail
                  refine (RT.out _ B6.out).mono ?_
                  rintro e w7 ⟨rfl, b7⟩
                  have B7 := Lib.hid (B6.out.trans (b7.mono B6.out.size))
                  clear b7
                  go_wp2_with fail
                  go_ret2
                  have hf := (HSO.out.on B7.out).mono (base' := w.heap.size) HB5.out.size
                  rw [← HOL.out] at hf
                  exact ⟨HB5.out.trans ((HB.out.trans (B7.out.mono hbz)).mono HB5.out.size), .inr ⟨o, _, oc, by rw [HOL.out]; rfl, hf, HGO.out, HQ.out⟩⟩
                · have q1 : (TX.toList == (bs s).toList) = false := by rw [htl, hsl]; simpa using hq
                  have q2 : (TX.toList != (bs s).toList) = true := by rw [htl, hsl]; simpa using hq
                  have HNO := Lib.hid (show ∀ y, Xo.Good y → Xo.text y ≠ s from fun y hg ht => hq (by rw [HY.out y hg ht]; exact ht))
                  clear hso hb hsf hft hlast h00 hlt TK her he hgo hTX htl hsl hq HY
                  go_wp2_with fail
                  refine GO.out.mono ?_
                  rintro e w6 ⟨rfl, b6⟩
                  have B6 := Lib.hid b6
                  clear b6
                  go_wp2_with fail
                  refine (RT.out _ B6.out).mono ?_
                  rintro e w7 ⟨rfl, b7⟩
                  have B7 := Lib.hid (B6.out.trans (b7.mono B6.out.size))
                  clear b7
                  go_wp2_with fail
                  go_ret2
                  exact RSam.no (HB5.out.trans ((HB.out.trans (B7.out.mono hbz)).mono HB5.out.size)) rfl HNO.out
              · have hez : ((er : Int) != 0) = true := by simp; omega
                have HNO := Lib.hid (show ∀ y, Xo.Good y → Xo.text y ≠ s from fun y hg ht => he (by rw [her, HY.out y hg ht]; exact ofErr_good y hg))
                clear hso hb hsf hft hlast h00 hlt TK her he HY
                go_wp2_with fail
                refine GO.out.mono ?_
                rintro e w6 ⟨rfl, b6⟩
                have B6 := Lib.hid b6
                clear b6
                go_wp2_with fail
                go_ret2
                exact RSam.no (HB5.out.trans ((HB.out.trans (B6.out.mono hbz)).mono HB5.out.size)) rfl HNO.out
            · have HNO := Lib.hid (show ∀ y, Xo.Good y → Xo.text y ≠ s from fun y hg ht => by
                obtain ⟨y1, y2⟩ := HBQ.out y hg ht
                have := sofar_len hsf.out hg y2 (by have := HOL.out; omega)
                have := HN.out
                omega)
              have HB := Lib.hid hb
              have d3 : decide (N < p) = true := by simp; omega
              clear hso hb hsf hft hlast h00 hpl hlt TK
              go_wp2_with fail
              go_ret2
              exact RSam.no (HB5.out.trans (HB.out.mono HB5.out.size)) rfl HNO.out
    · have hez : ((e2 : Int) != 0) = true := by simp; omega
      have hno : ∀ q, Xo.Good q → Xo.text q ≠ s := fun q hg ht => by
        obtain ⟨k1, k2⟩ := heads_of q hg
        rw [ht, H1.out] at k1
        simp only [Prod.mk.injEq] at k1
        obtain ⟨_, rfl, _⟩ := k1
        rw [H2.out] at k2
        simp only [Prod.mk.injEq] at k2
        exact he2 k2.2.2
      have HNO := Lib.hid hno
      clear hno he2 s13 s14 s23 s24
      go_enter Tryd.func14, Tryd.ntmps14
      go_wp2_with fail
      refine (T1.out _).mono ?_
      rintro e _ ⟨rfl, n1, rfl⟩
      go_wp2_with fail
      refine (T2.out _).mono ?_
      rintro e _ ⟨rfl, n2, rfl⟩
      go_wp2_with fail
      go_ret2
      exact RSam.no (below_draw B0.out (n1 + n2)) rfl HNO.out
  · have hez : ((e1 : Int) != 0) = true := by simp; omega
    have hno : ∀ q, Xo.Good q → Xo.text q ≠ s := fun q hg ht => by
      obtain ⟨k1, k2⟩ := heads_of q hg
      rw [ht, H1.out] at k1
      simp only [Prod.mk.injEq] at k1
      exact he1 k1.2.2
    have HNO := Lib.hid hno
    clear hno he1 s13 s14
    go_enter Tryd.func14, Tryd.ntmps14
    go_wp2_with fail
    refine (T1.out _).mono ?_
    rintro e _ ⟨rfl, n1, rfl⟩
    go_wp2_with fail
    go_ret2
    exact RSam.no (below_draw B0.out n1) rfl HNO.out
end Go.Proofs.YtieaiecoiononaaDoor
