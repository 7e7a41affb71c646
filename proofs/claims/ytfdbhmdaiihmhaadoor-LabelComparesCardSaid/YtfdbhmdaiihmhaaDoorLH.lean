/- Layer 6: the document's own Compare; the statement LabelCompares walked. -/
import Derived.Test.YtfdbhmdaiihmhaaDoorLG
namespace Go.Proofs.YtfdbhmdaiihmhaaDoor
open Go.RowKit Go.Lib

theorem less_true {a b : List UInt8} (h : a < b) : Op.bytesLess a b = true := (less_lt a b).2 h
theorem less_false {a b : List UInt8} (h : ¬ a < b) : Op.bytesLess a b = false := by
  rw [Bool.eq_false_iff]
  exact fun e => h ((less_lt a b).1 e)

set_option maxHeartbeats 4000000 in
set_option maxRecDepth 100000 in
theorem rcmp_lb (u v : Value) (a b : List Pr) (w : World) (h : Rd w 2 u a.length (prc a)) (k : Rd w 2 v b.length (prc b)) (hm : a.length ≤ 1000000) (hm2 : b.length ≤ 1000000) :
    Calls Tryd.prog 37 #[u, v] w fun e w' => e = .returned (.int .i64 (cmpS a b)) ∧ Below w.heap.size w w' := by
  have hT := bs_toList
  obtain ⟨_, ua, ucap, g, off, rfl, hg, hc⟩ := h
  obtain ⟨_, va, vcap, g2, off2, rfl, hg2, hc2⟩ := k
  obtain ⟨n, hn⟩ : ∃ n, n = a.length := ⟨_, rfl⟩
  obtain ⟨m, hmm⟩ : ∃ m, m = b.length := ⟨_, rfl⟩
  rw [← hn] at hg hc hm ⊢
  rw [← hmm] at hg2 hc2 hm2 ⊢
  have HN := Lib.hid hn; have HM := Lib.hid hmm
  have HC := Lib.hid hc; have HC2 := Lib.hid hc2
  have HG := Lib.hid hg; have HG2 := Lib.hid hg2
  clear hn hmm hc hc2 hg hg2
  go_enter Tryd.func37, Tryd.ntmps37
  go_wp2_with fail
  go_loopw [5] (fun i' wr => ∃ (i : Nat), i' = .int .i64 i ∧ i ≤ n ∧ i ≤ m ∧ Hid (cmpS a b = cmpS (a.drop i) (b.drop i)) ∧ Below w.heap.size w wr) (fun i' _ => n - (intOf i').toNat)
  case atStart => exact ⟨0, rfl, by omega, by omega, rfl, Below.refl _ _⟩
  case round =>
    obtain ⟨i, rfl, hi, hj, hk, hb⟩ := hrel
    by_cases hlt : i < n ∧ i < m
    · obtain ⟨rfl, hgl⟩ := HG.out (by omega)
      obtain ⟨rfl, hgl2⟩ := HG2.out (by omega)
      obtain ⟨hin, him⟩ := hlt
      obtain ⟨x, hx⟩ : ∃ x, a[i]? = some x := ⟨a[i]'(by have := HN.out; omega), List.getElem?_eq_getElem (by have := HN.out; omega)⟩
      obtain ⟨v0, v1⟩ := prc_at a i x hx
      have q0 := ((hb.cell (p := ⟨g, off + i * 2, none⟩) hgl).trans (HC.out (i * 2) (by omega))).trans v0
      have q1 := ((hb.cell (p := ⟨g, off + (i * 2 + 1), none⟩) hgl).trans (HC.out (i * 2 + 1) (by omega))).trans v1
      rw [← Nat.add_assoc] at q1
      have hd : a.drop i = x :: a.drop (i + 1) := by
        rw [List.drop_eq_getElem_cons (by have := HN.out; omega)]
        congr 1
        rw [List.getElem?_eq_getElem (by have := HN.out; omega)] at hx
        exact Option.some.inj hx
      obtain ⟨y, hy⟩ : ∃ y, b[i]? = some y := ⟨b[i]'(by have := HM.out; omega), List.getElem?_eq_getElem (by have := HM.out; omega)⟩
      obtain ⟨u0, u1⟩ := prc_at b i y hy
      have p0 := ((hb.cell (p := ⟨g2, off2 + i * 2, none⟩) hgl2).trans (HC2.out (i * 2) (by omega))).trans u0
      have p1 := ((hb.cell (p := ⟨g2, off2 + (i * 2 + 1), none⟩) hgl2).trans (HC2.out (i * 2 + 1) (by omega))).trans u1
      rw [← Nat.add_assoc] at p1
      have hd2 : b.drop i = y :: b.drop (i + 1) := by
        rw [List.drop_eq_getElem_cons (by have := HM.out; omega)]
        congr 1
        rw [List.getElem?_eq_getElem (by have := HM.out; omega)] at hy
        exact Option.some.inj hy
      have hgw : g ≠ wr.heap.size := by have := hb.size; omega
      have hgw2 : g2 ≠ wr.heap.size := by have := hb.size; omega
      have hil : (i : Int) < n := by omega
      have hjl : (i : Int) < m := by omega
      have ba := (Below.refl wr.heap.size wr).alloc (Nat.le_refl _) (Obj.cells #[.string (bs x.n), .string (bs x.v)] 85)
      have r0 := (ba.cell (p := ⟨g2, off2 + i * 2, none⟩) (by have := hb.size; show g2 < wr.heap.size; omega)).trans p0
      have r1 := (ba.cell (p := ⟨g2, off2 + i * 2 + 1, none⟩) (by have := hb.size; show g2 < wr.heap.size; omega)).trans p1
      have hkk := hk.out
      rw [hd, hd2, cmpS] at hkk
      have hne := fun W => neq_rp x y W
      have hbb := (hb.alloc hb.size (Obj.cells #[.string (bs x.n), .string (bs x.v)] 85)).alloc (by have := hb.size; simp; omega) (Obj.cells #[.string (bs y.n), .string (bs y.v)] 85)
      rcases ltP_tri x y with hl | hl | hl
      · have hcf : cfP x y = -1 := by have := (cfP_lt x y).2 hl; have := cfP_val x y; omega
        rw [hcf, if_neg (by omega)] at hkk
        have HQ := Lib.hid hkk
        rcases hl with hl | ⟨he, hl⟩
        · have f1 := less_true hl
          clear hkk hk hd hd2 v0 v1 u0 u1 hx hy hcf hne hl
          go_wp2
          go_ret
          exact ⟨by rw [HQ.out]; rfl, hbb⟩
        · have f1 : Op.bytesLess x.n y.n = false := less_false (by rw [he]; exact bytes_lt_irrefl _)
          have f2 : (x.n == y.n) = true := by simpa using he
          have f3 := less_true hl
          clear hkk hk hd hd2 v0 v1 u0 u1 hx hy hcf hne hl he
          go_wp2
          go_ret
          exact ⟨by rw [HQ.out]; rfl, hbb⟩
      · have hcf : cfP x y = 0 := (cfP_zero x y).2 hl
        rw [hcf, if_pos rfl] at hkk
        have HQ := Lib.hid hkk
        subst hl
        have f1 : Op.bytesLess x.n x.n = false := less_false (bytes_lt_irrefl _)
        have f2 : (x.n == x.n) = true := by simp
        have f3 : Op.bytesLess x.v x.v = false := less_false (bytes_lt_irrefl _)
        have hne' : ∀ W, (binOp BinOp.neq 85 (.agg #[.string (bs x.n), .string (bs x.v)]) (.agg #[.string (bs x.n), .string (bs x.v)])).run Tryd.prog W = .ok (.bool false) W := fun W => by rw [neq_rp]; simp
        clear hkk hk hd hd2 v0 v1 u0 u1 hx hy hcf hne
        go_wp2
        exact ⟨⟨i + 1, by simp, by omega, by omega, HQ.out, hbb⟩, by simp [intOf]; omega⟩
      · have hcf : cfP x y = 1 := by have := (cfP_lt y x).2 hl; rw [cfP_neg] at this; have := cfP_val x y; omega
        rw [hcf, if_neg (by omega)] at hkk
        have HQ := Lib.hid hkk
        have hxy : x ≠ y := fun e => by subst e; exact ltP_irrefl _ hl
        have hne' : ∀ W, (binOp BinOp.neq 85 (.agg #[.string (bs x.n), .string (bs x.v)]) (.agg #[.string (bs y.n), .string (bs y.v)])).run Tryd.prog W = .ok (.bool true) W := fun W => by rw [neq_rp]; simp [hxy]
        rcases hl with hl | ⟨he, hl⟩
        · have f1 : Op.bytesLess x.n y.n = false := less_false (fun k => bytes_lt_irrefl _ (bytes_lt_trans hl k))
          have f2 : (x.n == y.n) = false := by rw [beq_eq_false_iff_ne]; exact fun e => by rw [e] at hl; exact bytes_lt_irrefl _ hl
          clear hkk hk hd hd2 v0 v1 u0 u1 hx hy hcf hne hl hxy
          go_wp2
          go_ret
          exact ⟨by rw [HQ.out]; rfl, hbb⟩
        · have f1 : Op.bytesLess x.n y.n = false := less_false (by rw [he]; exact bytes_lt_irrefl _)
          have f2 : (x.n == y.n) = true := by simpa using he.symm
          have f3 : Op.bytesLess x.v y.v = false := less_false (fun k => bytes_lt_irrefl _ (bytes_lt_trans hl k))
          clear hkk hk hd hd2 v0 v1 u0 u1 hx hy hcf hne hl he hxy
          go_wp2
          go_ret
          exact ⟨by rw [HQ.out]; rfl, hbb⟩
    · by_cases hin : i < n
      · have him : i = m := by omega
        subst him
        have hd2 : b.drop i = [] := List.drop_eq_nil_of_le (by have := HM.out; omega)
        have hne : ∃ y r, a.drop i = y :: r := ⟨a[i]'(by have := HN.out; omega), a.drop (i + 1), List.drop_eq_getElem_cons (by have := HN.out; omega)⟩
        obtain ⟨y, r, hd⟩ := hne
        have hkk := hk.out
        rw [hd, hd2, cmpS] at hkk
        have HQ := Lib.hid hkk
        have hil : (i : Int) < n := by omega
        have hjl : ¬ (i : Int) < i := by omega
        have hnl : ¬ (n : Int) < i := by omega
        clear hkk hk hd hd2 hlt
        go_wp2
        go_ret
        exact ⟨by rw [HQ.out]; rfl, hb⟩
      · have hie : i = n := by omega
        subst hie
        have hd : a.drop i = [] := List.drop_eq_nil_of_le (by have := HN.out; omega)
        have hil : ¬ (i : Int) < i := by omega
        by_cases him : i < m
        · have hne : ∃ y r, b.drop i = y :: r := ⟨b[i]'(by have := HM.out; omega), b.drop (i + 1), List.drop_eq_getElem_cons (by have := HM.out; omega)⟩
          obtain ⟨y, r, hd2⟩ := hne
          have hkk := hk.out
          rw [hd, hd2, cmpS] at hkk
          have HQ := Lib.hid hkk
          have hjl : (i : Int) < m := by omega
          clear hkk hk hd hd2 hlt
          go_wp2
          go_ret
          exact ⟨by rw [HQ.out]; rfl, hb⟩
        · have hie : i = m := by omega
          subst hie
          have hd2 : b.drop i = [] := List.drop_eq_nil_of_le (by have := HM.out; omega)
          have hkk := hk.out
          rw [hd, hd2, cmpS] at hkk
          have HQ := Lib.hid hkk
          clear hkk hk hd hd2 hlt
          go_wp2
          go_ret
          exact ⟨by rw [HQ.out]; rfl, hb⟩

set_option maxHeartbeats 2000000 in
set_option maxRecDepth 100000 in
theorem compares_any (a0 : Option Addr) (len0 cap0 : Nat) (z0 : List Pr) (a1 : Option Addr) (len1 cap1 : Nat) (z1 : List Pr) (w : World)
    (m0 : len0 ≤ maxLen) (w0 : PrsAt w a0 len0 z0) (m1 : len1 ≤ maxLen) (w1 : PrsAt w a1 len1 z1) :
    Calls Tryd.prog 5 #[.slice a0 len0 cap0, .slice a1 len1 cap1] w fun e w' => e = .returned (.bool true) ∧ Below w.heap.size w w' := by
  obtain ⟨A, hA⟩ : ∃ A, A = f42 z0 := ⟨_, rfl⟩
  obtain ⟨B, hB⟩ : ∃ B, B = f42 z1 := ⟨_, rfl⟩
  have lA : A.length ≤ 10 := by rw [hA]; exact w0.len
  have lB : B.length ≤ 10 := by rw [hB]; exact w1.len
  have F0 := Lib.hid (fun W (b : Below w.heap.size w W) => show Calls Tryd.prog 16 #[.slice a0 len0 cap0] W (NewP W A) by rw [hA]; exact few_any a0 len0 cap0 z0 W m0 (w0.below b))
  have F1 := Lib.hid (fun W (b : Below w.heap.size w W) => show Calls Tryd.prog 16 #[.slice a1 len1 cap1] W (NewP W B) by rw [hB]; exact few_any a1 len1 cap1 z1 W m1 (w1.below b))
  have CAB := Lib.hid (fun u v W (h : Rd W 2 u A.length (prc A)) (k : Rd W 2 v B.length (prc B)) => cmp_lb u v A B W h k (by omega) (by omega))
  have RAB := Lib.hid (fun u v W (h : Rd W 2 u A.length (prc A)) (k : Rd W 2 v B.length (prc B)) => rcmp_lb u v A B W h k (by omega) (by omega))
  have TA := Lib.hid (fun u W (h : Rd W 2 u A.length (prc A)) => told_any u A W h (by omega))
  have TB := Lib.hid (fun u W (h : Rd W 2 u B.length (prc B)) => told_any u B W h (by omega))
  obtain ⟨x, hxe⟩ : ∃ x, x = cmpS A B := ⟨_, rfl⟩
  rw [← hxe] at CAB RAB
  clear hA hB hxe w0 w1
  go_enter Tryd.func5, Tryd.ntmps5
  go_wp2_with fail
  refine (F0.out _ (Below.refl _ _)).mono ?_
  rintro e w1 ⟨u0, rfl, s0, b0⟩
  go_wp2_with fail
  refine (F1.out _ b0).mono ?_
  rintro e w2 ⟨u1, rfl, s1, b1⟩
  have bb1 := below_step b0 b1
  have r0 := (Rd.of_sl s0).on b1
  have r1 := Rd.of_sl s1
  clear s0 s1 b0 b1
  go_wp2_with fail
  refine (lawake_any _).mono ?_
  rintro e w7 ⟨rfl, b7⟩
  have r07 := r0.on b7; have r17 := r1.on b7
  go_wp2_with fail
  refine (CAB.out _ _ _ r07 r17).mono ?_
  rintro e w8 ⟨rfl, b8⟩
  have r08 := r07.on b8; have r18 := r17.on b8
  go_wp2_with fail
  refine (TA.out _ _ r08).mono ?_
  rintro e w9 ⟨t0, rfl, s9, b9⟩
  have r19 := r18.on b9
  go_wp2_with fail
  refine (TB.out _ _ r19).mono ?_
  rintro e w10 ⟨t1, rfl, s10, b10⟩
  go_wp2_with fail
  refine (RAB.out _ _ _ ((Rd.of_sl s9).on b10) (Rd.of_sl s10)).mono ?_
  rintro e w11 ⟨rfl, b11⟩
  go_wp2
  go_ret
  exact ⟨rfl, below_step (below_step (below_step (below_step (below_step bb1 b7) b8) b9) b10) b11⟩
end Go.Proofs.YtfdbhmdaiihmhaaDoor
