/- Layer 9, the document's: the bytes of what a meta says. -/
import Derived.Test.YtoihkeilofpcjaaDoorMMT0
namespace Go.Proofs.YtoihkeilofpcjaaDoor
open Go.RowKit Go.Lib
set_option linter.unusedVariables false

set_option maxHeartbeats 4000000 in
set_option maxRecDepth 100000 in
theorem rfields9_any (m : Mt.Me) (vf vs : Value) (w : World) (h : MeR w m vf vs) (hc : Mt.chk m = true) (hsum : ∀ f ∈ m.files, f.sum < 4294967296) :
    Calls Tryd.prog 13 #[meV m vf vs] w fun e w' => e = .returned (.string (bs (Mt.fld m))) ∧ Below w.heap.size w w' := by
  obtain ⟨id, mn, mx, lv, se, sa, files, src⟩ := m
  obtain ⟨⟨-, af, kf, gf, of', rfl, hgf, hcf⟩, ⟨-, a5, k5, g5, o5, rfl, hg5, hc5⟩, -, -⟩ := h
  simp only [Nat.mul_one] at hgf hcf hg5 hc5
  have hc2 := hc
  unfold Mt.chk at hc2
  simp only [Bool.and_eq_true] at hc2
  obtain ⟨⟨⟨⟨k1, k2⟩, k3⟩, k4⟩, k6⟩ := hc2
  have hid := Mt.isN_len k1
  unfold Mt.okT at k2
  unfold Mt.okN at k3
  unfold Mt.okS at k6
  simp only [Bool.and_eq_true, decide_eq_true_eq] at k2 k3 k6 hid
  obtain ⟨mn, rfl⟩ := Int.eq_ofNat_of_zero_le k2.1.1
  obtain ⟨mx, rfl⟩ := Int.eq_ofNat_of_zero_le (show 0 ≤ mx by omega)
  obtain ⟨lv, rfl⟩ := Int.eq_ofNat_of_zero_le (show 0 ≤ lv by omega)
  obtain ⟨se, rfl⟩ := Int.eq_ofNat_of_zero_le k3.1.1.2
  obtain ⟨sa, rfl⟩ := Int.eq_ofNat_of_zero_le (show 0 ≤ sa by omega)
  have h1 := wrap_small mn (by omega)
  have h2 := wrap_small mx (by omega)
  have h3 := wrap_small lv (by omega)
  have h4 := wrap_small se (by omega)
  have h5 := wrap_small sa (by omega)
  have m1 : mn ≤ 2000000000000 := by omega
  have m2 : mx ≤ 2000000000000 := by omega
  have m3 : lv ≤ 2000000000000 := by omega
  have m4 : se ≤ 2000000000000 := by omega
  have m5 : sa ≤ 2000000000000 := by omega
  have hfl2 : files.length = 2 := by
    obtain ⟨f, g, rfl, _⟩ := Mt.okFs_two k4
    rfl
  have hfok : ∀ f ∈ files, f.name.length ≤ 40 ∧ 0 ≤ f.size ∧ f.size ≤ 1048576 ∧ f.sum < 4294967296 := by
    obtain ⟨f, g, rfl, hf, hg⟩ := Mt.okFs_two k4
    unfold Mt.okF at hf hg
    simp only [Bool.and_eq_true, decide_eq_true_eq] at hf hg
    intro x hx
    have hsx := hsum x hx
    simp only [List.mem_cons, List.not_mem_nil, or_false] at hx
    rcases hx with rfl | rfl
    · rw [hf.1.1]; exact ⟨by decide, hf.1.2, hf.2, hsx⟩
    · rw [hg.1.1]; exact ⟨by decide, hg.1.2, hg.2, hsx⟩
  have hs16 : ∀ s ∈ src, s.length = 16 := fun s hs => Mt.isN_len (Mt.okSs_mem k6.2 s hs)
  have hs50 : src.length ≤ 50 := k6.1
  obtain ⟨A5, hA5⟩ : ∃ A : List UInt8, A = Leb.encT id ++ Leb.encU mn ++ Leb.encU mx ++ Leb.encU lv ++ Leb.encU se ++ Leb.encU sa := ⟨_, rfl⟩
  obtain ⟨L, hL⟩ : ∃ L, L = Mt.fld ⟨id, mn, mx, lv, se, sa, files, src⟩ := ⟨_, rfl⟩
  have hLA : L = A5 ++ files.flatMap Mt.flB ++ Leb.encU src.length ++ src.flatMap Leb.encT := by
    rw [hL, hA5]
    unfold Mt.fld
    simp only [Int.toNat_natCast, List.append_assoc]
  rw [← hL]
  have HLA := Lib.hid hLA
  have HFO := Lib.hid hfok
  have HS16 := Lib.hid hs16
  have HCF := Lib.hid hcf
  have HC5 := Lib.hid hc5
  have HGF := Lib.hid hgf
  have HG5 := Lib.hid hg5
  have TX := Lib.hid (fun (l : List UInt8) (hl : l.length ≤ 1000000) (E : ByteArray) (hE : E = bs (Leb.encT l)) (W : World) => show Calls Tryd.prog 31 #[.string (bs l)] W (fun e w' => e = .returned (.string E) ∧ Below W.heap.size W w') from by rw [hE]; exact rtxt_any (bs l) W (by rw [bs_size]; omega))
  have TXX := TX
  have UX := Lib.hid (fun (v : Nat) (hv : v ≤ 1000000000000000000) (E : ByteArray) (hE : E = bs (Leb.encU v)) (W : World) => show Calls Tryd.prog 32 #[.int .u64 v] W (fun e w' => e = .returned (.string E) ∧ Below W.heap.size W w') from by rw [hE]; exact ruint_any v W (by unfold Leb.two64; omega))
  obtain ⟨EI, hEI⟩ : ∃ E, E = bs (Leb.encT id) := ⟨_, rfl⟩
  obtain ⟨E1, hE1⟩ : ∃ E, E = bs (Leb.encU mn) := ⟨_, rfl⟩
  obtain ⟨E2, hE2⟩ : ∃ E, E = bs (Leb.encU mx) := ⟨_, rfl⟩
  obtain ⟨E3, hE3⟩ : ∃ E, E = bs (Leb.encU lv) := ⟨_, rfl⟩
  obtain ⟨E4, hE4⟩ : ∃ E, E = bs (Leb.encU se) := ⟨_, rfl⟩
  obtain ⟨E5, hE5⟩ : ∃ E, E = bs (Leb.encU sa) := ⟨_, rfl⟩
  have C0 := Lib.hid (TX.out id (by omega) EI hEI)
  have C1 := Lib.hid (UX.out mn (by omega) E1 hE1)
  have C2 := Lib.hid (UX.out mx (by omega) E2 hE2)
  have C3 := Lib.hid (UX.out lv (by omega) E3 hE3)
  have C4 := Lib.hid (UX.out se (by omega) E4 hE4)
  have C5 := Lib.hid (UX.out sa (by omega) E5 hE5)
  have z0 : EI.size ≤ 26 := by rw [hEI, bs_size, Leb.encT, List.length_append]; have := (Leb.encU_len id.length).2; omega
  have z1 : E1.size ≤ 10 := by rw [hE1, bs_size]; exact (Leb.encU_len mn).2
  have z2 : E2.size ≤ 10 := by rw [hE2, bs_size]; exact (Leb.encU_len mx).2
  have z3 : E3.size ≤ 10 := by rw [hE3, bs_size]; exact (Leb.encU_len lv).2
  have z4 : E4.size ≤ 10 := by rw [hE4, bs_size]; exact (Leb.encU_len se).2
  have z5 : E5.size ≤ 10 := by rw [hE5, bs_size]; exact (Leb.encU_len sa).2
  have HA := Lib.hid (show EI ++ E1 ++ E2 ++ E3 ++ E4 ++ E5 = bs A5 by rw [hEI, hE1, hE2, hE3, hE4, hE5, bs_append, bs_append, bs_append, bs_append, bs_append, hA5])
  have ZA := Lib.hid (show A5.length ≤ 76 by rw [hA5]; simp only [List.length_append]; rw [Leb.encT, List.length_append]; have := (Leb.encU_len id.length).2; have := (Leb.encU_len mn).2; have := (Leb.encU_len mx).2; have := (Leb.encU_len lv).2; have := (Leb.encU_len se).2; have := (Leb.encU_len sa).2; omega)
  have j1 : ¬ 9223372036854775807 < EI.size + E1.size := by omega
  have j2 : ¬ 9223372036854775807 < EI.size + E1.size + E2.size := by omega
  have j3 : ¬ 9223372036854775807 < EI.size + E1.size + E2.size + E3.size := by omega
  have j4 : ¬ 9223372036854775807 < EI.size + E1.size + E2.size + E3.size + E4.size := by omega
  have j5 : ¬ 9223372036854775807 < EI.size + E1.size + E2.size + E3.size + E4.size + E5.size := by omega
  obtain ⟨N, hN⟩ : ∃ N, N = files.length := ⟨_, rfl⟩
  obtain ⟨n, hn⟩ : ∃ n, n = src.length := ⟨_, rfl⟩
  unfold meV
  show Calls _ _ #[.agg #[_, _, _, _, _, _, .slice af files.length kf, .slice a5 src.length k5]] _ _
  rw [← hN] at HGF HCF hfl2 ⊢
  rw [← hn] at HG5 HC5 hs50 HLA ⊢
  have HN := Lib.hid hN
  have Hn := Lib.hid hn
  have HF2 := Lib.hid hfl2
  have H50 := Lib.hid hs50
  clear hc k1 k2 k3 k4 k6 hid hsum hLA hA5 hfok hs16 hfl2 hcf hc5 hgf hg5 hL hEI hE1 hE2 hE3 hE4 hE5 hN hn z0 z1 z2 z3 z4 z5 hs50 TX
  go_enter Tryd.func13, Tryd.ntmps13
  go_upto_region 1 with fail
  have hm0 := heap_alloc_new w (.cells #[.string (bs id), .int .i64 mn, .int .i64 mx, .int .i64 lv, .int .i64 se, .int .i64 sa, .slice af N kf, .slice a5 n k5] 30)
  obtain ⟨V, hV⟩ : ∃ V, V = w.alloc (.cells #[.string (bs id), .int .i64 mn, .int .i64 mx, .int .i64 lv, .int .i64 se, .int .i64 sa, .slice af N kf, .slice a5 n k5] 30) := ⟨_, rfl⟩
  rw [← hV] at hm0 ⊢
  have bV : Below w.heap.size w V := by rw [hV]; exact (Below.refl _ _).alloc (Nat.le_refl _) _
  have zV : w.heap.size < V.heap.size := by rw [hV]; simp
  have KP := Lib.hid (fun W (b : Below V.heap.size V W) => show W.heap[w.heap.size]? = some (.cells #[.string (bs id), .int .i64 mn, .int .i64 mx, .int .i64 lv, .int .i64 se, .int .i64 sa, .slice af N kf, .slice a5 n k5] 30) from (b.block w.heap.size zV).trans hm0)
  have BV := Lib.hid bV
  have ZV := Lib.hid zV
  have KC := Lib.hid (fun W (b : Below V.heap.size V W) => show W.cell? ⟨w.heap.size, 0, none⟩ = some (.string (bs id)) ∧ W.cell? ⟨w.heap.size, 1, none⟩ = some (.int .i64 mn) ∧ W.cell? ⟨w.heap.size, 2, none⟩ = some (.int .i64 mx) ∧ W.cell? ⟨w.heap.size, 3, none⟩ = some (.int .i64 lv) ∧ W.cell? ⟨w.heap.size, 4, none⟩ = some (.int .i64 se) ∧ W.cell? ⟨w.heap.size, 5, none⟩ = some (.int .i64 sa) from
    ⟨(cells8 (KP.out W b)).1, (cells8 (KP.out W b)).2.1, (cells8 (KP.out W b)).2.2.1, (cells8 (KP.out W b)).2.2.2.1, (cells8 (KP.out W b)).2.2.2.2.1, (cells8 (KP.out W b)).2.2.2.2.2.1⟩)
  have B0 := Lib.hid (Below.refl V.heap.size V)
  have c0 := KC.out V B0.out
  clear hV hm0 bV zV
  have BD := Lib.hid (show Below V.heap.size V V.drew from (Below.refl V.heap.size V).drew)
  have c0d := KC.out V.drew BD.out
  go_region_held3 (fun W => W.cell? ⟨w.heap.size, 0, none⟩ = some (.string (bs id)) ∧ W.cell? ⟨w.heap.size, 1, none⟩ = some (.int .i64 mn) ∧ W.cell? ⟨w.heap.size, 2, none⟩ = some (.int .i64 mx) ∧ W.cell? ⟨w.heap.size, 3, none⟩ = some (.int .i64 lv) ∧ W.cell? ⟨w.heap.size, 4, none⟩ = some (.int .i64 se) ∧ W.cell? ⟨w.heap.size, 5, none⟩ = some (.int .i64 sa)) (with_reducible assumption)
    (first
      | (go_at_call 31; (with_reducible refine (C0.out _).mono ?_); rintro e x0 ⟨rfl, y0⟩; have s0 : Below V.heap.size V x0 := BD.out.trans y0; have r0 := KC.out _ s0)
      | (go_at_call 32; (with_reducible refine (C1.out _).mono ?_); rintro e x1 ⟨rfl, y1⟩; have s1 : Below V.heap.size V x1 := s0.trans (y1.mono s0.size); have r1 := KC.out _ s1)
      | (go_at_call 32; (with_reducible refine (C2.out _).mono ?_); rintro e x2 ⟨rfl, y2⟩; have s2 : Below V.heap.size V x2 := s1.trans (y2.mono s1.size); have r2 := KC.out _ s2)
      | (go_at_call 32; (with_reducible refine (C3.out _).mono ?_); rintro e x3 ⟨rfl, y3⟩; have s3 : Below V.heap.size V x3 := s2.trans (y3.mono s2.size); have r3 := KC.out _ s3)
      | (go_at_call 32; (with_reducible refine (C4.out _).mono ?_); rintro e x4 ⟨rfl, y4⟩; have s4 : Below V.heap.size V x4 := s3.trans (y4.mono s3.size); have r4 := KC.out _ s4)
      | (go_at_call 32; (with_reducible refine (C5.out _).mono ?_); rintro e x5 ⟨rfl, y5⟩; have s5 : Below V.heap.size V x5 := s4.trans (y5.mono s4.size); have r5 := KC.out _ s5)
      | fail)
  have S5 := Lib.hid s5
  have zv : w.heap.size < V.heap.size := ZV.out
  obtain ⟨m0, m1', m2', m3', m4', m5', m6, m7⟩ := cells8 (KP.out x5 s5)
  obtain ⟨T0, hT0⟩ : ∃ T0, T0 = EI ++ E1 ++ E2 ++ E3 ++ E4 ++ E5 := ⟨_, rfl⟩
  rw [← hT0] at HA ⊢
  have HT0 := Lib.hid hT0
  clear hT0 s0 s1 s2 s3 s4 s5 r0 r1 r2 r3 r4 r5 y0 y1 y2 y3 y4 y5 j1 j2 j3 j4 j5 h1 h2 h3 h4 h5 c0 c0d m0 m1' m2' m3' m4' m5' m7 C0 C1 C2 C3 C4 C5 KC HT0
  go_wp2_with fail
  clear m6
  go_loopw [3, 39] (fun s' i' wr => ∃ (i : Nat) (S : ByteArray), i' = .int .i64 i ∧ i ≤ N ∧ s' = .string S ∧ Hid (S = bs (A5 ++ (files.take i).flatMap Mt.flB)) ∧ Below V.heap.size V wr) (fun _ i' _ => N - (intOf i').toNat)
  case atStart => exact ⟨0, T0, rfl, by omega, rfl, by show _ = _; rw [HA.out]; simp, S5.out⟩
  case round =>
    obtain ⟨W0, rfl⟩ : ∃ W0, W0 = wr := ⟨_, rfl⟩
    obtain ⟨i, S, rfl, hi, rfl, hS, hb⟩ := hrel
    have HS := Lib.hid hS.out
    have hfl : ((files.take i).flatMap Mt.flB).length ≤ 70 * (files.take i).length := flat_le Mt.flB 70 _ fun x hx => by
      have h1 := flB_len x
      have h2 := (HFO.out x (List.mem_of_mem_take hx)).1
      omega
    have htl : (files.take i).length ≤ 2 := by rw [List.length_take]; have := HN.out; have := HF2.out; omega
    have sS : S.size ≤ 300 := by rw [HS.out, bs_size, List.length_append]; have := ZA.out; omega
    clear hS hfl htl
    by_cases hlt : i < N
    · as_aux_lemma =>
        obtain ⟨rfl, hgl⟩ := HGF.out (by omega)
        obtain ⟨x, hx⟩ : ∃ x, files[i]? = some x := ⟨files[i]'(by have := HN.out; omega), List.getElem?_eq_getElem (by have := HN.out; omega)⟩
        obtain ⟨v0, v1, v2⟩ := flc_at files i x hx
        obtain ⟨g1, g2, g3, g4⟩ := HFO.out x (List.mem_of_getElem? hx)
        have htk := take_flat Mt.flB files i x hx
        obtain ⟨xn, xz, xs⟩ := x
        simp only at v0 v1 v2 g1 g2 g3 g4
        obtain ⟨xz, rfl⟩ := Int.eq_ofNat_of_zero_le g2
        have hbz := hb.size
        have bw := BV.out.trans (hb.mono BV.out.size)
        have q0 := ((bw.cell (p := ⟨gf, of' + i * 3, none⟩) hgl).trans (HCF.out (i * 3) (by omega))).trans v0
        have q1 := ((bw.cell (p := ⟨gf, of' + (i * 3 + 1), none⟩) hgl).trans (HCF.out (i * 3 + 1) (by omega))).trans v1
        have q2 := ((bw.cell (p := ⟨gf, of' + (i * 3 + 2), none⟩) hgl).trans (HCF.out (i * 3 + 2) (by omega))).trans v2
        rw [← Nat.add_assoc] at q1 q2
        have hil : (i : Int) < N := by omega
        have hi9 : i ≤ 9 := by have := HF2.out; omega
        obtain ⟨EN, hEN⟩ : ∃ E, E = bs (Leb.encT xn) := ⟨_, rfl⟩
        obtain ⟨ES, hES⟩ : ∃ E, E = bs (Leb.encU xz) := ⟨_, rfl⟩
        obtain ⟨EM, hEM⟩ : ∃ E, E = bs (Leb.encU xs) := ⟨_, rfl⟩
        have C0 := Lib.hid (TXX.out xn (by omega) EN hEN)
        have C1 := Lib.hid (UX.out xz (by omega) ES hES)
        have C2 := Lib.hid (UX.out xs (by omega) EM hEM)
        have z0 : EN.size ≤ 60 := by rw [hEN, bs_size, Leb.encT, List.length_append]; have := (Leb.encU_len xn.length).2; omega
        have z1 : ES.size ≤ 10 := by rw [hES, bs_size]; exact (Leb.encU_len xz).2
        have z2 : EM.size ≤ 10 := by rw [hEM, bs_size]; exact (Leb.encU_len xs).2
        have u1 := wrap_small xz (by omega)
        have u2 := wrap_small xs (by omega)
        have j1 : ¬ 9223372036854775807 < EN.size + ES.size := by omega
        have j2 : ¬ 9223372036854775807 < EN.size + ES.size + EM.size := by omega
        have j3 : ¬ 9223372036854775807 < S.size + (EN.size + ES.size + EM.size) := by omega
        have HR := Lib.hid (show S ++ (EN ++ ES ++ EM) = bs (A5 ++ (files.take (i + 1)).flatMap Mt.flB) by
          rw [HS.out, hEN, hES, hEM, bs_append, bs_append, bs_append, htk]
          show _ = bs (A5 ++ ((files.take i).flatMap Mt.flB ++ (Leb.encT xn ++ (Leb.encU (xz : Int).toNat ++ Leb.encU xs))))
          rw [Int.toNat_natCast, List.append_assoc, List.append_assoc])
        have B1 := Lib.hid (hb.alloc hbz (.cells #[.string (bs xn), .int .i64 xz, .int .u32 xs] 47))
        clear v0 v1 v2 hx htk g1 g2 g3 g4 hEN hES hEM z0 z1 z2 bw HS
        go_upto_region 5 with fail
        obtain ⟨W, hW⟩ : ∃ W, W = W0.alloc (.cells #[.string (bs xn), .int .i64 xz, .int .u32 xs] 47) := ⟨_, rfl⟩
        have hh := heap_alloc_new W0 (.cells #[.string (bs xn), .int .i64 xz, .int .u32 xs] 47)
        rw [← hW] at hh
        have g0 : W.cell? ⟨W0.heap.size, 0, none⟩ = some (.string (bs xn)) := (cell_of_row _ _ 0 _ _ _ hh).trans rfl
        have g1 : W.cell? ⟨W0.heap.size, 1, none⟩ = some (.int .i64 xz) := (cell_of_row _ _ 1 _ _ _ hh).trans rfl
        have g2 : W.cell? ⟨W0.heap.size, 2, none⟩ = some (.int .u32 xs) := (cell_of_row _ _ 2 _ _ _ hh).trans rfl
        have gz : W0.heap.size < W.heap.size := by rw [hW]; simp
        rw [← hW] at B1
        simp only [← hW]
        clear hW q0 q1 q2 hh
        have KX := Lib.hid (fun (W' : World) (b : Below W.heap.size W W') => show W'.cell? ⟨W0.heap.size, 0, none⟩ = some (.string (bs xn)) ∧ W'.cell? ⟨W0.heap.size, 1, none⟩ = some (.int .i64 xz) ∧ W'.cell? ⟨W0.heap.size, 2, none⟩ = some (.int .u32 xs) from ⟨(b.cell (p := ⟨W0.heap.size, 0, none⟩) gz).trans g0, (b.cell (p := ⟨W0.heap.size, 1, none⟩) gz).trans g1, (b.cell (p := ⟨W0.heap.size, 2, none⟩) gz).trans g2⟩)
        have BD2 := Lib.hid (show Below W.heap.size W W.drew from (Below.refl W.heap.size W).drew)
        have k0 := KX.out _ BD2.out
        clear g0 g1 g2
        go_region_held3 (fun w' => w'.cell? ⟨W0.heap.size, 0, none⟩ = some (.string (bs xn)) ∧ w'.cell? ⟨W0.heap.size, 1, none⟩ = some (.int .i64 xz) ∧ w'.cell? ⟨W0.heap.size, 2, none⟩ = some (.int .u32 xs)) (with_reducible assumption)
          (first
            | (go_at_call 31; (with_reducible refine (C0.out _).mono ?_); rintro e x0 ⟨rfl, y0⟩; have s0 : Below W.heap.size W x0 := BD2.out.trans y0; have r0 := KX.out _ s0)
            | (go_at_call 32; (with_reducible refine (C1.out _).mono ?_); rintro e x1 ⟨rfl, y1⟩; have s1 : Below W.heap.size W x1 := s0.trans (y1.mono s0.size); have r1 := KX.out _ s1)
            | (go_at_call 32; (with_reducible refine (C2.out _).mono ?_); rintro e x2 ⟨rfl, y2⟩; have s2 : Below W.heap.size W x2 := s1.trans (y2.mono s1.size); have r2 := KX.out _ s2)
            | fail)
        go_wp2_with fail
        exact ⟨⟨i + 1, _, by go_num, by omega, rfl, HR.out, B1.out.trans (s2.mono B1.out.size)⟩, by simp [intOf]; omega⟩
    · as_aux_lemma =>
        have hil : ¬ (i : Int) < N := by omega
        have HS2 := Lib.hid (show S = bs (A5 ++ files.flatMap Mt.flB) by rw [HS.out, List.take_of_length_le (by have := HN.out; omega)])
        obtain ⟨m0, m1', m2', m3', m4', m5', m6, m7⟩ := cells8 (KP.out W0 hb)
        have h50 := H50.out
        have un := wrap_small n (by omega)
        have un2 : (n : Int) % 18446744073709551616 = n := by omega
        obtain ⟨EL, hEL⟩ : ∃ E, E = bs (Leb.encU n) := ⟨_, rfl⟩
        have C0 := Lib.hid (UX.out n (by omega) EL hEL)
        have z0 : EL.size ≤ 10 := by rw [hEL, bs_size]; exact (Leb.encU_len n).2
        have HR := Lib.hid (show S ++ EL = bs (A5 ++ files.flatMap Mt.flB ++ Leb.encU n) by rw [HS2.out, hEL, bs_append])
        have j1 : ¬ 9223372036854775807 < S.size + EL.size := by omega
        have BB := Lib.hid hb
        clear HS hEL m0 m1' m2' m3' m4' m5' m6 hb
        go_wp2_with fail
        refine (C0.out _).mono ?_
        rintro e x6 ⟨rfl, y6⟩
        have b6 : Below V.heap.size V x6 := BB.out.trans (y6.mono BB.out.size)
        have p7 := (cells8 (KP.out x6 b6)).2.2.2.2.2.2.2
        have B6 := Lib.hid b6
        clear y6 b6 m7
        go_wp2_with fail
        go_loopw [3, 69] (fun s' i' wr => ∃ (i : Nat) (S : ByteArray), i' = .int .i64 i ∧ i ≤ n ∧ s' = .string S ∧ Hid (S = bs (A5 ++ files.flatMap Mt.flB ++ Leb.encU n ++ (src.take i).flatMap Leb.encT)) ∧ Below V.heap.size V wr) (fun _ i' _ => n - (intOf i').toNat)
        case atStart => exact ⟨0, _, rfl, by omega, rfl, by show _ = _; rw [HR.out]; simp, B6.out⟩
        case round =>
          obtain ⟨W2, rfl⟩ : ∃ W2, W2 = wr := ⟨_, rfl⟩
          obtain ⟨k, S2, rfl, hk, rfl, hS2, hb2⟩ := hrel
          have HS3 := Lib.hid hS2.out
          have hfl2 : ((src.take k).flatMap Leb.encT).length ≤ 30 * (src.take k).length := flat_le Leb.encT 30 _ fun x hx => by
            have h2 := HS16.out x (List.mem_of_mem_take hx)
            rw [Leb.encT, List.length_append]
            have := (Leb.encU_len x.length).2
            omega
          have htl2 : (src.take k).length ≤ 50 := by rw [List.length_take]; have := Hn.out; omega
          have hse : (S ++ EL).size ≤ 400 := by rw [ByteArray.size_append]; omega
          have sS2 : S2.size ≤ 4000 := by
            rw [HS3.out, bs_size, List.length_append]
            rw [HR.out, bs_size] at hse
            omega
          clear hS2 hfl2 htl2 hse
          by_cases hlt2 : k < n
          · obtain ⟨rfl, hgl2⟩ := HG5.out (by omega)
            obtain ⟨x, hx⟩ : ∃ x, src[k]? = some x := ⟨src[k]'(by have := Hn.out; omega), List.getElem?_eq_getElem (by have := Hn.out; omega)⟩
            have htk := take_flat Leb.encT src k x hx
            have hx16 := HS16.out x (List.mem_of_getElem? hx)
            have bw := BV.out.trans (hb2.mono BV.out.size)
            have q0 := ((bw.cell (p := ⟨g5, o5 + k, none⟩) hgl2).trans (HC5.out k (by omega))).trans (sc_at src k x hx)
            have hil2 : (k : Int) < n := by omega
            obtain ⟨ET, hET⟩ : ∃ E, E = bs (Leb.encT x) := ⟨_, rfl⟩
            have C0 := Lib.hid (TXX.out x (by omega) ET hET)
            have z0 : ET.size ≤ 30 := by rw [hET, bs_size, Leb.encT, List.length_append]; have := (Leb.encU_len x.length).2; omega
            have j1 : ¬ 9223372036854775807 < S2.size + ET.size := by omega
            have HR2 := Lib.hid (show S2 ++ ET = bs (A5 ++ files.flatMap Mt.flB ++ Leb.encU n ++ (src.take (k + 1)).flatMap Leb.encT) by
              rw [HS3.out, hET, bs_append, htk, List.append_assoc])
            have hk9 : k ≤ 50 := by omega
            clear hET htk hx hx16 z0 bw HS3
            go_wp2_with fail
            refine (C0.out _).mono ?_
            rintro e x7 ⟨rfl, y7⟩
            go_wp2_with fail
            exact ⟨⟨k + 1, _, by go_num, by omega, rfl, HR2.out, hb2.trans (y7.mono hb2.size)⟩, by simp [intOf]; omega⟩
          · have hil2 : ¬ (k : Int) < n := by omega
            have HQ := Lib.hid (show S2 = bs L by rw [HS3.out, List.take_of_length_le (by have := Hn.out; omega), HLA.out])
            clear HS3
            go_wp2_with fail
            go_ret
            exact ⟨by rw [← HQ.out]; rfl, BV.out.trans (hb2.mono BV.out.size)⟩
end Go.Proofs.YtoihkeilofpcjaaDoor
