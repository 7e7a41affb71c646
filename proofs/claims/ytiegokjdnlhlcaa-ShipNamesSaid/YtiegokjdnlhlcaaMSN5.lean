/- Layer 18: no two names are the same: the law. -/
import Derived.Test.YtiegokjdnlhlcaaMSN3
import Derived.Deep.RegionHeld3
namespace Go.Proofs.Ytiegokjdnlhlcaa
open Go.RowKit Go.Lib
set_option linter.unusedVariables false

/-- A number of a slice that came in. -/
theorem ints_cell {w W : World} {a : Option Addr} {len cap : Nat} {z : List Int} (h : IntsAt w a len cap z) (b : Below w.heap.size w W) {i : Nat} (hi : i < len) : ∃ g off, a = some ⟨g, off, none⟩ ∧ g < w.heap.size ∧ W.cell? ⟨g, off + i, none⟩ = some (.int .i64 (z.getD i 0)) ∧ -9223372036854775808 ≤ z.getD i 0 ∧ z.getD i 0 ≤ 9223372036854775807 := by
  obtain ⟨hl, ⟨a', cap', he, hc, hx⟩, hr, hb⟩ := h
  cases he
  obtain ⟨g, off, rfl, hcell⟩ := hx (by omega)
  have hg := hb (by omega) g rfl
  refine ⟨g, off, rfl, hg, (b.cell (p := ⟨g, off + i, none⟩) hg).trans (hcell i (by omega)), ?_⟩
  have hm : z.getD i 0 ∈ z := by
    rw [List.getD_eq_getElem?_getD, List.getElem?_eq_getElem (by omega)]
    exact List.getElem_mem _
  exact hr.2 _ hm
theorem and3_bd (x : Int) : 0 ≤ bits .and .i64 x 3 ∧ bits .and .i64 x 3 ≤ 3 := by rw [i64_and3]; omega

/-- The disk, and a kept block being turned. -/
theorem DiskAt.other18 {base d f c m mp : Nat} {room : Int} {fs : List Fl} {A : List Ft} {clock : Nat} {w w' : World} (h : DiskAt base d f c m room fs A clock w) (t : Turn (fun j => j = mp) w w') (hm : ¬ Mine d f c m fs mp) : DiskAt base d f c m room fs A clock w' := by
  have hd : d < w.heap.size := Nat.lt_of_lt_of_le h.dlt h.hb
  have n1 : d ≠ mp := fun e => hm (.inl e.symm)
  have n2 : f ≠ mp := fun e => hm (.inr (.inl e.symm))
  have n3 : c ≠ mp := fun e => hm (.inr (.inr (.inl e.symm)))
  have n4 : m ≠ mp := fun e => hm (.inr (.inr (.inr (.inl e.symm))))
  exact { h with
    hb := Nat.le_trans h.hb t.size
    c0 := (t.cell (p := ⟨d, 0, none⟩) hd n1).trans h.c0
    c1 := (t.cell (p := ⟨d, 1, none⟩) hd n1).trans h.c1
    c2 := (t.cell (p := ⟨d, 2, none⟩) hd n1).trans h.c2
    c3 := (t.cell (p := ⟨d, 3, none⟩) hd n1).trans h.c3
    f2 := (t.frozen (p := ⟨d, 2, none⟩) hd n1).trans h.f2
    fuse := h.fuse.turn t n2 n3
    map := h.map.turn t n4
    files := ⟨fun x hx => (h.files.sl x hx).same t.size fun k hk => t.block k ((h.files.sl x hx).lt k hk).2 fun e => hm (.inr (.inr (.inr (.inr ⟨x, hx, by rw [← e]; exact hk⟩)))), h.files.sure, h.files.names, h.files.apart⟩ }
theorem Sm.turn18 {base d f c m mp : Nat} {nf : Bool} {q : Option (List UInt8)} {w w' : World} (h : Sm base d f c m (fun k => k = mp) nf q w) (t : Turn (fun k => k = mp) w w') : Sm base d f c m (fun k => k = mp) nf q w' := by
  obtain ⟨fs, A, ck, h1, h2, h3⟩ := h
  exact ⟨fs, A, ck, h1.other18 t (h2.2 mp rfl).2, ⟨h2.1, fun k hk => ⟨Nat.lt_of_lt_of_le (h2.2 k hk).1 t.size, (h2.2 k hk).2⟩⟩, h3⟩

/-- The law's loop. -/
def NmR (w : World) (base d f c m mp : Nat) (i : Nat) (tick last : Value) (wr : World) : Prop :=
  ∃ (n t : Nat) (la : List UInt8) (N : List (List UInt8)), tick = .int .i64 t ∧ last = .string (bs la) ∧ t ≤ 3 * i ∧ n ≤ i ∧ Hid (Gave N la t n) ∧ Hid (Sm base d f c m (fun k => k = mp) false (qOf n) wr ∧ SeenN mp N wr ∧ Below w.heap.size w wr)

set_option maxHeartbeats 4000000 in
set_option maxRecDepth 100000 in
theorem shipnames_any (a0 : Option Addr) (len0 cap0 : Nat) (z0 : List Int) (a1 : Option Addr) (len1 cap1 : Nat) (z1 : List Int) (a2 : Option Addr) (len2 cap2 : Nat) (z2 : List Int) (w : World) (w0 : IntsAt w a0 len0 cap0 z0) (w1 : IntsAt w a1 len1 cap1 z1) (w2 : IntsAt w a2 len2 cap2 z2) :
    Calls Try.prog 3 #[.slice a0 len0 cap0, .slice a1 len1 cap1, .slice a2 len2 cap2] w fun e w' => e = .returned (.bool true) ∧ Below w.heap.size w w' := by
  have hT := bs_toList
  have hmm := @run_makeMap Try.prog
  have ND := Lib.hid (new_sm w)
  have AW := Lib.hid (fun W => awake18_any W)
  have I0 := Lib.hid w0; have I1 := Lib.hid w1; have I2 := Lib.hid w2
  clear w0 w1 w2
  go_enter Try.func3, Try.ntmps3
  go_wp2_with fail
  refine ND.out.mono ?_
  rintro e x1 ⟨base, d, f, c, m, rfl, S1, hH, b1⟩
  go_wp2_with fail
  refine (AW.out _).mono ?_
  rintro e x2 ⟨rfl, b2⟩
  have S2 := S1.below b2
  have B2 := b1.trans (b2.mono b1.size)
  obtain ⟨mp, hmp⟩ : ∃ mp, mp = x2.heap.size := ⟨_, rfl⟩
  have G0 := Lib.hid (show NmR w base d f c m mp 0 (.int .i64 0) (.string ⟨#[]⟩) (x2.alloc (.map #[] 0)) from
    ⟨0, 0, [], [], rfl, rfl, by omega, by omega, Lib.hid ⟨(fun x hx => by cases hx), .inl rfl⟩, Lib.hid ⟨by
      rw [hmp]
      obtain ⟨fs, A, ck, h1, ⟨_, h2⟩, h3⟩ := S2.keep (.map #[] 0)
      exact ⟨fs, A, ck, h1, ⟨(fun h => by cases h), h2⟩, h3⟩, ⟨[], 0, by rw [hmp]; exact heap_alloc_new x2 _, fun _ _ => rfl⟩, B2.alloc B2.size _⟩⟩)
  have HH := Lib.hid hH
  have hmp0 : w.heap.size ≤ mp := by rw [hmp]; exact B2.size
  rw [hmp] at G0
  clear S1 S2 b1 b2 B2 hH ND AW
  go_wp2_with fail
  rw [← hmp] at G0 ⊢
  clear hmp
  go_loopw [9, 10, 11] (fun t' l' i' wr => ∃ (i : Nat), i' = .int .i64 i ∧ i ≤ 20 ∧ NmR w base d f c m mp i t' l' wr) (fun _ _ i' _ => 20 - (RowKit.intOf i').toNat)
  case atStart => exact ⟨0, rfl, by omega, G0.out⟩
  case round =>
    clear G0
    obtain ⟨W0, rfl⟩ : ∃ W0, W0 = wr := ⟨_, rfl⟩
    obtain ⟨i, rfl, hi, n, t, la, N, rfl, rfl, ht, hn, hgv, hst⟩ := hrel
    by_cases hlt : i < len0 ∧ i < 20
    · obtain ⟨hl0, hl20⟩ := hlt
      obtain ⟨sm, sn, hb⟩ := hst.out
      obtain ⟨g, off, rfl, hg, c0, hx0, hx1⟩ := ints_cell I0.out hb hl0
      obtain ⟨x, hx⟩ : ∃ x, x = z0.getD i 0 := ⟨_, rfl⟩
      rw [← hx] at c0
      have i1 : (i : Int) < len0 := by omega
      have i2 : (i : Int) < 20 := by omega
      have i3 : (0 : Int) ≤ i := by omega
      obtain ⟨y3, hy3⟩ : ∃ y3, bits .and .i64 x 3 = y3 := ⟨_, rfl⟩
      have hy0 := and3_bd x
      rw [hy3] at hy0
      obtain ⟨y4, hy4⟩ : ∃ y4, bits .and .i64 x 4 = y4 := ⟨_, rfl⟩
      obtain ⟨t2, ht2⟩ : ∃ t2 : Nat, (t : Int) + y3 = t2 := ⟨((t : Int) + y3).toNat, by omega⟩
      have ht3 : t2 ≤ 3 * (i + 1) := by omega
      have htt : t ≤ t2 := by omega
      have HX := Lib.hid hx
      have GV := Lib.hid hgv.out
      have SM := Lib.hid sm
      have SN := Lib.hid sn
      have HB := Lib.hid hb
      have d0 := sm.c0
      clear hx hgv hst sm sn hb
      by_cases hf : i < len1
      case' pos =>
        obtain ⟨g1, o1, rfl, hg1, c1, hz0, hz1⟩ := ints_cell I1.out HB.out hf
        obtain ⟨z, hz⟩ : ∃ z, z = z1.getD i 0 := ⟨_, rfl⟩
        rw [← hz] at c1
        have hfi : (i : Int) < len1 := by omega
        obtain ⟨u3, hu3⟩ : ∃ u3, bits .and .i64 z 3 = u3 := ⟨_, rfl⟩
        have hu0 := and3_bd z
        rw [hu3] at hu0
        obtain ⟨u4, hu4⟩ : ∃ u4, bits .and .i64 z 4 = u4 := ⟨_, rfl⟩
        obtain ⟨ub, hub⟩ : ∃ ub : Bool, (u4 == 0) = ub := ⟨_, rfl⟩
        have AR := Lib.hid (fun W (b : Below W0.heap.size W0 W) => sm_arm u3 ub (SM.out.below b) HH.out ⟨by show -9223372036854775808 ≤ u3; omega, by show u3 ≤ 9223372036854775807; omega⟩)
        have BD := (Below.refl W0.heap.size W0).drew
        clear hz
        go_upto_region 12 with fail
        go_region_held3 (fun W => W.cell? ⟨d, 0, none⟩ = some (.pointer (some ⟨f, 0, none⟩)) ∧ W.cell? ⟨g1, o1 + i, none⟩ = some (.int .i64 z))
          (first | exact ⟨d0, c1⟩ | exact k1 | assumption | fail)
          (first
            | (go_at_call 6; (with_reducible refine (AR.out _ BD).mono ?_); rintro e W1 ⟨er, rfl, sm1, bm1⟩; have k1 := And.intro sm1.c0 ((bm1.b.cell (p := ⟨g1, o1 + i, none⟩) hg1).trans c1))
            | fail)
        have sn1 : SeenN mp N W1 := (SN.out.same (w' := W0.drew) rfl).same (bm1.x mp rfl)
        have hb1 : Below w.heap.size w W1 := HB.out.drew.trans bm1.b
        clear k1 BD AR bm1 c1
      case' neg =>
        have hfi : ¬ (i : Int) < len1 := by omega
        obtain ⟨W1, hW1⟩ : ∃ W1, W1 = W0 := ⟨_, rfl⟩
        have sm1 := SM.out
        have sn1 := SN.out
        have hb1 := HB.out
        rw [← hW1] at sm1 sn1 hb1
        go_upto_region 13 with fail
        rw [← hW1]
        clear hW1
      all_goals
        have NX := Lib.hid (shipnext_any t2 n W1 sm1 HH.out hb1.size (by omega) (by omega))
        have SN1 := Lib.hid sn1
        have HB1 := Lib.hid hb1
        clear sm1 sn1 hb1 SM SN HB d0
        go_wp2_with fail
        refine NX.out.mono ?_
        rintro e W2 ⟨hq, bm2⟩
        have sn2 := SN1.out.same (bm2.x mp rfl)
        have hb2 : Below w.heap.size w W2 := HB1.out.trans bm2.b
        rcases hq with ⟨rfl, sm2⟩ | ⟨_, rfl, n', hn1, hn2, sm2⟩
        case' inl =>
          obtain ⟨hnin, hla, gv2⟩ := (GV.out.more htt (Nat.le_refl n)).new (by omega) (by omega)
          obtain ⟨W3, l1, st, tn, l2, sn3⟩ := sn2.step hnin
          have f1 := less_true hla
          have f2 := less_false (fun h => List.lt_asymm hla h)
          have f3 : (Idn.nam t2 (n + 1) == la) = false := beq_eq_false_iff_ne.2 fun e => List.lt_irrefl la (by rw [e] at hla; exact hla)
          have hb3 : Below w.heap.size w W3 := hb2.trans (tn.below hb2.size (fun k hk => by rw [hk]; exact hmp0))
          have GN := Lib.hid (show Gave (N ++ [Idn.nam t2 (n + 1)]) (Idn.nam t2 (n + 1)) t2 (n + 1) ∧ Sm base d f c m (fun k => k = mp) false (qOf (n + 1)) W3 ∧ SeenN mp (N ++ [Idn.nam t2 (n + 1)]) W3 from ⟨gv2, sm2.turn18 tn, sn3⟩)
          obtain ⟨n3, hn3⟩ : ∃ n3, n3 = n + 1 := ⟨_, rfl⟩
          have hn3' : n3 ≤ n + 1 := by omega
          generalize Idn.nam t2 (n + 1) = la3 at l1 st l2 f1 f2 f3 GN
          rw [← hn3] at GN
          generalize N ++ [la3] = N3 at GN
          clear hnin hla gv2 tn sn2 sn3 sm2 hb2 hn3
        case' inr =>
          have hb3 := hb2
          have GN := Lib.hid (show Gave N la t2 n' ∧ Sm base d f c m (fun k => k = mp) false (qOf n') W2 ∧ SeenN mp N W2 from ⟨GV.out.more htt hn1, sm2, sn2⟩)
          obtain ⟨W3, hW3⟩ : ∃ W3, W3 = W2 := ⟨_, rfl⟩
          obtain ⟨la3, hla3⟩ : ∃ la3, la3 = la := ⟨_, rfl⟩
          obtain ⟨N3, hN3⟩ : ∃ N3, N3 = N := ⟨_, rfl⟩
          obtain ⟨n3, hn3⟩ : ∃ n3, n3 = n' := ⟨_, rfl⟩
          have hn3' : n3 ≤ n + 1 := by omega
          rw [← hW3] at hb3
          rw [← hW3, ← hla3, ← hN3, ← hn3] at GN
          clear hn1 hn2 sn2 sm2 hb2 hn3 hN3
        all_goals
          have c3 : W3.cell? ⟨g, off + i, none⟩ = some (.int .i64 x) := by
            obtain ⟨g', off', e, _, h, _⟩ := ints_cell I0.out hb3 hl0
            cases e
            rw [h, HX.out]
          obtain ⟨_, hii, hrr, hbb⟩ := I2.out
          have CC := Lib.hid (sm_crash (.slice a2 len2 cap2) z2 (if 0 < z2.length then (Value.slice a2 len2 cap2).ownBlock else none) GN.out.2.1 HH.out (hii.on fun h0 k hk => hb3.block k (hbb h0 k hk)) hrr (fun h0 k hk => by rw [if_pos h0]; exact hk) (fun k hk => by
            split at hk
            · rename_i h0
              have h1 := hbb h0 k hk
              have h2 := hb3.size
              exact ⟨by omega, h1⟩
            · cases hk))
          have HB3 := Lib.hid hb3
          clear hii hrr hbb hb3 bm2 NX SN1 HB1 GV hy0 hx0 hx1 c0
        case' inr =>
          rw [hW3, hla3] at *
        all_goals
          by_cases h4 : 0 < y4
          · have h4' : (0 : Int) < y4 := h4
            go_wp2_with fail
            refine CC.out.mono ?_
            rintro e W4 ⟨rfl, sm4, bm4⟩
            go_wp2
            exact ⟨⟨i + 1, by simp, by omega, n3, t2, _, N3, rfl, rfl, ht3, by omega, Lib.hid GN.out.1, Lib.hid ⟨sm4, GN.out.2.2.same (bm4.x mp rfl), HB3.out.trans bm4.b⟩⟩, by simp [RowKit.intOf]; omega⟩
          · have h4' : ¬ (0 : Int) < y4 := h4
            go_wp2_with fail
            exact ⟨⟨i + 1, by simp, by omega, n3, t2, _, N3, rfl, rfl, ht3, by omega, Lib.hid GN.out.1, Lib.hid ⟨GN.out.2.1, GN.out.2.2, HB3.out⟩⟩, by simp [RowKit.intOf]; omega⟩
    · have hlt2 : ¬ (i : Int) < len0 ∨ ¬ (i : Int) < 20 := by omega
      have BB := Lib.hid hst.out.2.2
      clear hst hgv
      by_cases hl : (i : Int) < len0
      · have h20 : ¬ (i : Int) < 20 := by omega
        clear hlt2
        go_wp2_with fail
        go_ret
        exact ⟨rfl, BB.out⟩
      · clear hlt2
        go_wp2_with fail
        go_ret
        exact ⟨rfl, BB.out⟩
end Go.Proofs.Ytiegokjdnlhlcaa
