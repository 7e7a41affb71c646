/- Layer 15: the first known answers. -/
import Derived.Test.YthgpnjkabpfccaaDoorMHN
import Derived.Test.YthgpnjkabpfccaaDoorML8
import Derived.Test.YthgpnjkabpfccaaDoorMLD
namespace Go.Proofs.YthgpnjkabpfccaaDoor
open Go.RowKit Go.Lib

def ka : ByteArray := bs (keyL [⟨[97], [49]⟩])
theorem ptk_a (v : Value) (W : World) (h : Rd W 2 v 1 (prc [⟨[97], [49]⟩])) : PtK v ka W := by
  refine ⟨fun X b => ?_, fun X b => ?_⟩
  · have := check_any v [⟨[97], [49]⟩] X (h.on b) (by decide)
    rw [show cE (chk [⟨[97], [49]⟩]) = 0 by decide] at this
    exact this
  · exact key_lb v [⟨[97], [49]⟩] X (h.on b) (by decide) (by decide)
theorem s6_lt {b ms mi mp mh ml B k : Nat} (h : HdLt b ms mi mp mh ml B) (hk : S6 b ms mi mp mh ml k) : k < B := by
  obtain ⟨l1, l2, l3, l4, l5, l6⟩ := h
  unfold S6 at hk
  omega

/-- The first known answers' calls, one behind the other. -/
theorem awake_w (b ms mi mp mh ml : Nat) (sv : Value) (w1 w2 : World) (hLT : HdLt b ms mi mp mh ml w1.heap.size) (ne6 : Hd6 b ms mi mp mh ml) (H1 : HdB b ms mi mp 5 50 10 0 (-1) 0 0 0 w1) (M1 : MapIs ms [] 0 w1) (J1 : MapIsJ mp [] 0 w1) (X1 : IxB mi mh ml (.slice none 0 0) w1) (mh1 : MapIs mh [] 0 w1) (ml1 : MapIsJ ml [] 0 w1) (s2 : Sl w2 w1.heap.size 2 sv 1 (prc [⟨[97], [49]⟩])) (b2 : Below w1.heap.size w1 w2) :
    (Calls Tryd.prog 9 #[.pointer (some ⟨b, 0, none⟩), .slice (some ⟨w2.heap.size, 0, none⟩) 2 2] (w2.alloc (.cells #[sv, .int .i64 3, .int .u64 0, sv, .int .i64 25, .int .u64 0] 45)) fun e w' => e = .returned (.tuple #[.int .i64 (-1), .int .i64 0]) ∧ Below (w2.alloc (.cells #[sv, .int .i64 3, .int .u64 0, sv, .int .i64 25, .int .u64 0] 45)).heap.size (w2.alloc (.cells #[sv, .int .i64 3, .int .u64 0, sv, .int .i64 25, .int .u64 0] 45)) w') ∧
    ∀ w4, Below (w2.alloc (.cells #[sv, .int .i64 3, .int .u64 0, sv, .int .i64 25, .int .u64 0] 45)).heap.size (w2.alloc (.cells #[sv, .int .i64 3, .int .u64 0, sv, .int .i64 25, .int .u64 0] 45)) w4 →
      (Calls Tryd.prog 10 #[.pointer (some ⟨b, 0, none⟩), .slice (some ⟨w2.heap.size, 0, none⟩) 2 2] w4 fun e w' => e = .returned (.tuple #[]) ∧ OneS w4.heap.size b ms mi mp 0 5 50 10 25 2 ka 2 [.int .i64 3, .int .u64 0, .int .i64 25, .int .u64 0] w' ∧ Turn (S6 b ms mi mp mh ml) w4 w') ∧
      ∀ w5, OneS w4.heap.size b ms mi mp 0 5 50 10 25 2 ka 2 [.int .i64 3, .int .u64 0, .int .i64 25, .int .u64 0] w5 → Turn (S6 b ms mi mp mh ml) w4 w5 →
        (Calls Tryd.prog 11 #[.pointer (some ⟨b, 0, none⟩)] w5 fun e w' => e = .returned (.tuple #[.int .i64 0, .int .i64 10, .bool true]) ∧ Below w5.heap.size w5 w') ∧
        ∀ w6, Below w5.heap.size w5 w6 →
          (w6.cell? ⟨w2.heap.size, 3, none⟩ = some sv ∧ w6.cell? ⟨w2.heap.size, 4, none⟩ = some (.int .i64 25) ∧ w6.cell? ⟨w2.heap.size, 5, none⟩ = some (.int .u64 0)) ∧
          (Calls Tryd.prog 9 #[.pointer (some ⟨b, 0, none⟩), .slice (some ⟨w6.heap.size, 0, none⟩) 1 1] (w6.alloc (.cells #[sv, .int .i64 25, .int .u64 0] 45)) fun e w' => e = .returned (.tuple #[.int .i64 0, .int .i64 11]) ∧ Below (w6.alloc (.cells #[sv, .int .i64 25, .int .u64 0] 45)).heap.size (w6.alloc (.cells #[sv, .int .i64 25, .int .u64 0] 45)) w') ∧
          ∀ w7, Below (w6.alloc (.cells #[sv, .int .i64 25, .int .u64 0] 45)).heap.size (w6.alloc (.cells #[sv, .int .i64 25, .int .u64 0] 45)) w7 →
            (Calls Tryd.prog 12 #[.pointer (some ⟨b, 0, none⟩)] w7 fun e w' => e = .returned (.int .i64 2) ∧ w7 = w') ∧ ∀ B, (∀ k, S6 b ms mi mp mh ml k → B ≤ k) → B ≤ w2.heap.size → Below B w2 w7 := by
  have ho : sv.oneCell' = true := by obtain ⟨a, c, rfl⟩ := s2.slice; rfl
  obtain ⟨W3, hW3⟩ : ∃ W3, W3 = w2.alloc (.cells #[sv, .int .i64 3, .int .u64 0, sv, .int .i64 25, .int .u64 0] 45) := ⟨_, rfl⟩
  have hP : W3.heap[w2.heap.size]? = some (.cells #[sv, .int .i64 3, .int .u64 0, sv, .int .i64 25, .int .u64 0] 45) := by rw [hW3]; exact heap_alloc_new _ _
  have b23 : Below w2.heap.size w2 W3 := by rw [hW3]; exact (Below.refl _ _).alloc (Nat.le_refl _) _
  rw [← hW3]
  have z2 := b2.size
  have b13 := b2.trans (b23.mono z2)
  have sv3 := s2.on b23
  have R3 : Rd W3 2 sv 1 (prc [⟨[97], [49]⟩]) := Rd.of_sl sv3
  have hSlt : ∀ k, S6 b ms mi mp mh ml k → k < w1.heap.size := fun k hk => s6_lt hLT hk
  refine ⟨check_two b ms mi mp 0 w2.heap.size 0 2 5 50 10 0 (-1) 0 0 0 3 0 25 0 sv ka W3 ((b13.block b hLT.1).trans H1) (Below.mapIs b13 M1) ⟨(Array.getElem?_eq_some_iff.1 hP).1, fun k hk => ?_⟩ (ptk_a sv W3 R3) (by decide) (by decide) (by decide) (by decide) (by decide) (by decide) (by decide) (by decide), fun w4 b4 => ?_⟩
  · rcases (by omega : k = 0 ∨ k = 1) with rfl | rfl
    · exact ⟨ho, Lib.cell_of_heap hP 0, Lib.cell_of_heap hP 1, Lib.cell_of_heap hP 2⟩
    · exact ⟨ho, Lib.cell_of_heap hP 3, Lib.cell_of_heap hP 4, Lib.cell_of_heap hP 5⟩
  have b14 := b13.trans (b4.mono b13.size)
  have P4 := kept_below b4 hP
  have z4 := b14.size
  have sv4 := sv3.on b4
  have hlvS : ∀ k, sv.ownBlock = some k → ¬ S6 b ms mi mp mh ml k := fun k hk e => by have h1 := (s2.lt k hk).1; have h2 := hSlt k e; omega
  have hgS : ¬ S6 b ms mi mp mh ml w2.heap.size := fun e => by have := hSlt _ e; omega
  obtain ⟨l1, l2, l3, l4, l5, l6⟩ := hLT
  refine ⟨add_two b ms mi mp mh ml w2.heap.size 0 2 0 0 0 0 [97] [49] 5 50 10 3 0 25 0 sv ka w4 ne6 ⟨by omega, by omega, by omega, by omega, by omega, by omega⟩ ((b14.block b l1).trans H1) (Below.mapIs b14 M1) (Below.mapIsJ b14 J1) ⟨(b14.block mi l3).trans X1.box, X1.bh, X1.bl, X1.hl⟩ (Below.mapIs b14 mh1) (Below.mapIsJ b14 ml1) (Rd.of_sl sv4) (fun W h => ptk_a sv W h) ⟨by decide, by decide⟩ hlvS ho hgS (Array.getElem?_eq_some_iff.1 P4).1 (Lib.cell_of_heap P4 0) (Lib.cell_of_heap P4 1) (Lib.cell_of_heap P4 2) (Lib.cell_of_heap P4 3) (Lib.cell_of_heap P4 4) (Lib.cell_of_heap P4 5) (by decide) (by decide) (by decide) ⟨by decide, by decide⟩ ⟨by decide, by decide⟩, fun w5 o5 t5 => ?_⟩
  have P5 := (t5.block w2.heap.size (Array.getElem?_eq_some_iff.1 P4).1 hgS).trans P4
  have R5 : Rd w5 2 sv 1 (prc [⟨[97], [49]⟩]) := (Rd.of_sl sv4).turnT t5 hlvS
  refine ⟨?_, fun w6 b6 => ?_⟩
  · obtain ⟨p, lv', v', H, M, S, sl, hp, hv⟩ := o5
    exact oldest_one b ms mi mp 0 p 5 50 2 1 1 1 1 lv' v' ka w4.heap.size 1 _ w5 H M S sl rfl (by decide) (by decide)
  have P6 := kept_below b6 P5
  refine ⟨⟨Lib.cell_of_heap P6 3, Lib.cell_of_heap P6 4, Lib.cell_of_heap P6 5⟩, ?_, fun w7 b7 => ?_⟩
  · have b67 : Below w6.heap.size w6 (w6.alloc (.cells #[sv, .int .i64 25, .int .u64 0] 45)) := (Below.refl _ _).alloc (Nat.le_refl _) _
    obtain ⟨p, lv', v', H, M, S, sl, hp, hv⟩ := (o5.on b6).on b67
    have Q := heap_alloc_new w6 (.cells #[sv, .int .i64 25, .int .u64 0] 45)
    exact check_twice b ms mi mp 1 w6.heap.size 1 1 [⟨ka, .pointer (some ⟨p, 0, none⟩), 0⟩] 5 50 10 0 25 2 1 1 25 0 sv (.pointer (some ⟨p, 0, none⟩)) ka 0 _ (by decide) H M (Array.getElem?_eq_some_iff.1 Q).1 (Lib.cell_of_heap Q 0) (Lib.cell_of_heap Q 1) (Lib.cell_of_heap Q 2) (ptk_a sv _ ((R5.on b6).on b67)) ho (by simp [lookE]) (last_there p lv' ka 1 1 w4.heap.size 1 _ v' 25 _ S sl (by decide) rfl) (by decide) (by decide)
  · have b67 : Below w6.heap.size w6 (w6.alloc (.cells #[sv, .int .i64 25, .int .u64 0] 45)) := (Below.refl _ _).alloc (Nat.le_refl _) _
    obtain ⟨p, lv', v', H, M, S, sl, hp, hv⟩ := ((o5.on b6).on b67).on b7
    refine ⟨samples_hd b ms mi mp 5 50 10 0 25 2 1 1 w7 H, fun B hB hB2 => ?_⟩
    have z23 := b23.size
    have z34 := b4.size
    have z45 := t5.size
    have z56 := b6.size
    have z67 := b67.size
    exact (b23.mono hB2).trans ((b4.mono (by omega)).trans ((t5.below (by omega) hB).trans ((b6.mono (by omega)).trans ((b67.mono (by omega)).trans (b7.mono (by omega))))))

set_option maxHeartbeats 4000000 in
set_option maxRecDepth 100000 in
theorem awake15_any (w : World) : Calls Tryd.prog 5 #[] w fun e w' => e = .returned (.bool true) ∧ Below w.heap.size w w' := by
  have NH := Lib.hid (hnew_good 5 50 10 w (by unfold CfgGood; decide))
  have P1 := Lib.hid (fun W => show Calls Tryd.prog 8 #[.string (bs [97, 61, 49])] W (fun e w' => ∃ v, e = .returned (.tuple #[v, .int .i64 0]) ∧ Sl w' W.heap.size 2 v 1 (prc [⟨[97], [49]⟩]) ∧ Below W.heap.size W w') by
    have hs : sortP [⟨[97], [49]⟩] = [⟨[97], [49]⟩] := (sortP_of (List.Perm.refl _) (by unfold Rising; decide)).symm
    refine (parse_lb [97, 61, 49] W (by decide)).mono ?_
    rintro e w' ⟨v, er, rfl, hb, hm⟩
    rw [show pairsL (parts 44 [97, 61, 49]) = some [⟨[97], [49]⟩] by decide] at hm
    simp only [hs] at hm
    rw [if_pos (by decide)] at hm
    obtain ⟨rfl, h2⟩ := hm
    exact ⟨v, rfl, h2, hb⟩)
  have k1 : ByteArray.mk #[97, 61, 49] = bs [97, 61, 49] := rfl
  go_enter Tryd.func5, Tryd.ntmps5
  go_wp2_with fail
  refine NH.out.mono ?_
  rintro e w1 ⟨b, ms, mi, mp, mh, ml, rfl, ⟨g1, g2, g3, g4, g5, g6⟩, ⟨n1, n2, n3, n4, n5, n6⟩, H1, M1, J1, X1, mh1, ml1, b1⟩
  have l1 := hdB_lt H1
  have l2 := mapIs_lt M1
  have l3 : mi < w1.heap.size := (Array.getElem?_eq_some_iff.1 X1.box).1
  have l4 := mapIsJ_lt J1
  have l5 := mapIs_lt mh1
  have l6 := mapIsJ_lt ml1
  have hLT : HdLt b ms mi mp mh ml w1.heap.size := ⟨l1, l2, l3, l4, l5, l6⟩
  have ne6 : Hd6 b ms mi mp mh ml := by
    have hbm : ∀ {k c : Nat} {es : List En}, MapIs k es c w1 → b ≠ k := fun hk e => by subst e; have := hk.symm.trans H1; cases this
    have hbj : ∀ {k c : Nat} {es : List EnJ}, MapIsJ k es c w1 → b ≠ k := fun hk e => by subst e; have := hk.symm.trans H1; cases this
    have him : ∀ {k c : Nat} {es : List En}, MapIs k es c w1 → k ≠ mi := fun hk e => by subst e; have := hk.symm.trans X1.box; cases this
    have hij : ∀ {k c : Nat} {es : List EnJ}, MapIsJ k es c w1 → k ≠ mi := fun hk e => by subst e; have := hk.symm.trans X1.box; cases this
    exact ⟨hbm M1, hbj J1, (fun e => by subst e; have h := H1.symm.trans X1.box; simp at h), hbm mh1, hbj ml1, n1, him M1, n2, n3, hij J1, n4, n5⟩
  have AW := Lib.hid (fun w2 sv (s2 : Sl w2 w1.heap.size 2 sv 1 (prc [⟨[97], [49]⟩])) (b2 : Below w1.heap.size w1 w2) => awake_w b ms mi mp mh ml sv w1 w2 hLT ne6 H1 M1 J1 X1 mh1 ml1 s2 b2)
  have B1 := Lib.hid b1
  have HS := Lib.hid (show ∀ k, S6 b ms mi mp mh ml k → w.heap.size ≤ k from fun k hk => by unfold S6 at hk; omega)
  clear NH H1 M1 J1 X1 mh1 ml1 hLT ne6 n1 n2 n3 n4 n5 n6 l1 l2 l3 l4 l5 l6 g1 g2 g3 g4 g5 g6 b1
  go_wp2_with fail
  with_reducible refine (P1.out _).mono ?_
  rintro e w2 ⟨sv, rfl, s2, b2⟩
  have A2 := AW.out w2 sv s2 b2
  have B2 := Lib.hid (B1.out.trans (b2.mono B1.out.size))
  obtain ⟨sa, sc, rfl⟩ := s2.slice
  obtain ⟨CK, A3⟩ := A2
  have CK := Lib.hid CK; have A3 := Lib.hid A3
  clear s2 b2 AW P1 k1
  go_wp2_with fail
  with_reducible refine CK.out.mono ?_
  rintro e w4 ⟨rfl, b4⟩
  obtain ⟨AD, A4⟩ := A3.out w4 b4
  have AD := Lib.hid AD; have A4 := Lib.hid A4
  clear CK A3 b4
  go_wp2_with fail
  with_reducible refine AD.out.mono ?_
  rintro e w5 ⟨rfl, o5, t5⟩
  obtain ⟨OL, A5⟩ := A4.out w5 o5 t5
  have OL := Lib.hid OL; have A5 := Lib.hid A5
  clear AD A4 o5 t5
  go_wp2_with fail
  with_reducible refine OL.out.mono ?_
  rintro e w6 ⟨rfl, b6⟩
  obtain ⟨⟨c3, c4, c5⟩, CT, A6⟩ := A5.out w6 b6
  have CT := Lib.hid CT; have A6 := Lib.hid A6
  clear OL A5 b6
  go_wp2_with fail
  with_reducible refine CT.out.mono ?_
  rintro e w7 ⟨rfl, b7⟩
  obtain ⟨SA, A7⟩ := A6.out w7 b7
  have SA := Lib.hid SA
  have FIN := Lib.hid (B2.out.trans (A7 w.heap.size HS.out B2.out.size))
  clear CT A6 c3 c4 c5 b7 A7
  go_wp2_with fail
  with_reducible refine SA.out.mono ?_
  rintro e w8 ⟨rfl, rfl⟩
  go_wp2
  go_ret
  exact ⟨rfl, FIN.out⟩
end Go.Proofs.YthgpnjkabpfccaaDoor
