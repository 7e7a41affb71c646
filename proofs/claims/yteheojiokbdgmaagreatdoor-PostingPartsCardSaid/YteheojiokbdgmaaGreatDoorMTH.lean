/- Layer 12: New, Get, All; the first known answers. Layer 12: a new index; Get and All, whatever is in it. -/
import Derived.Test.YteheojiokbdgmaaGreatDoorMIX6
import Derived.Test.YteheojiokbdgmaaGreatDoorMT5
namespace Go.Proofs.YteheojiokbdgmaaGreatDoor
open Go.RowKit Go.Lib

set_option maxHeartbeats 1000000 in
set_option maxRecDepth 100000 in
theorem new12 (w : World) : Calls Tryz.prog 17 #[] w fun e w' => ∃ b mh ml, e = .returned (.pointer (some ⟨b, 0, none⟩)) ∧ (w.heap.size ≤ b ∧ w.heap.size ≤ mh ∧ w.heap.size ≤ ml) ∧ IxB b mh ml (.slice none 0 0) w' ∧ MapIs mh [] 0 w' ∧ MapIsJ ml [] 0 w' ∧ Below w.heap.size w w' := by
  have hmm := @run_makeMap Tryz.prog
  go_enter Tryz.func17, Tryz.ntmps17
  go_wp2
  go_ret
  have s1 : (w.alloc (.map #[] 0)).heap.size = w.heap.size + 1 := by simp
  have s2 : ((w.alloc (.map #[] 0)).alloc (.map #[] 0)).heap.size = w.heap.size + 2 := by simp
  have h1 := heap_alloc_new w (.map #[] 0)
  have h2 := heap_alloc_new (w.alloc (.map #[] 0)) (.map #[] 0)
  rw [s1] at h2
  have h3 := heap_alloc_new ((w.alloc (.map #[] 0)).alloc (.map #[] 0)) (.cells #[.slice none 0 0, .map (some w.heap.size), .map (some (w.heap.size + 1))] 70)
  rw [s2] at h3
  exact ⟨w.heap.size + 2, w.heap.size, w.heap.size + 1, rfl, ⟨by omega, by omega, by omega⟩, ⟨h3, by omega, by omega, by omega⟩, (Below.heap_alloc _ _ _ (by omega)).trans ((Below.heap_alloc _ _ _ (by omega)).trans h1), (Below.heap_alloc _ _ _ (by omega)).trans h2, (((Below.refl _ _).alloc (Nat.le_refl _) _).alloc (by omega) _).alloc (by omega) _⟩

set_option maxHeartbeats 1000000 in
set_option maxRecDepth 100000 in
theorem get_first (b mh ml mi ch c1 c2 : Nat) (va vl : Value) (n : Int) (x y : List UInt8) (w : World) (h : IxB b mh ml va w) (m1 : MapIs mh [⟨bs x, .map (some mi), ch⟩] c1 w) (m2 : MapIs mi [⟨bs y, vl, 0⟩] c2 w) (hv : Nc w vl [n]) :
    Calls Tryz.prog 9 #[.pointer (some ⟨b, 0, none⟩), .string (bs x), .string (bs y)] w (NewN w [n]) := by
  have k1 : w.cell? ⟨b, 1, none⟩ = some (.map (some mh)) := Lib.cell_of_heap h.box 1
  have l1 : (Instr.lookup 67 (.map (some mh)) (.string (bs x)) false).run Tryz.prog w = .ok (.map (some mi)) w := by
    have := run_look (P := Tryz.prog) Tryz.underlying67 Tryz.underlying9 (.map none) zv_inner m1 (bs x) false
    simpa [lookE] using this
  have l2 : (Instr.lookup 66 (.map (some mi)) (.string (bs y)) false).run Tryz.prog w = .ok vl w := by
    have := run_look (P := Tryz.prog) Tryz.underlying66 Tryz.underlying9 (.slice none 0 0) zv_list m2 (bs y) false
    simpa [lookE] using this
  have C := Lib.hid (nclone_any vl [n] w hv)
  clear h m1 m2 hv
  go_enter Tryz.func9, Tryz.ntmps9
  go_wp2_with fail
  refine C.out.mono ?_
  rintro e w1 ⟨v1, rfl, s1, b1⟩
  go_wp2
  go_ret
  exact ⟨_, rfl, s1, b1⟩

set_option maxHeartbeats 1000000 in
set_option maxRecDepth 100000 in
theorem all_first (b mh ml : Nat) (va : Value) (n : Int) (w : World) (h : IxB b mh ml va w) (hv : Nc w va [n]) :
    Calls Tryz.prog 14 #[.pointer (some ⟨b, 0, none⟩)] w (NewN w [n]) := by
  have k0 : w.cell? ⟨b, 0, none⟩ = some va := Lib.cell_of_heap h.box 0
  have C := Lib.hid (nclone_any va [n] w hv)
  obtain ⟨a, c, rfl⟩ := nc_form hv
  clear h hv
  go_enter Tryz.func14, Tryz.ntmps14
  go_wp2_with fail
  refine C.out.mono ?_
  rintro e w1 ⟨v1, rfl, s1, b1⟩
  go_wp2
  go_ret
  exact ⟨_, rfl, s1, b1⟩

theorem two_lists (w : World) : Ncs (((w.alloc (.cells #[.int .i64 1, .int .i64 2, .int .i64 5] 3)).alloc (.cells #[.int .i64 2, .int .i64 3, .int .i64 5] 3)).alloc (.cells #[.slice (some ⟨w.heap.size, 0, none⟩) 3 3, .slice (some ⟨w.heap.size + 1, 0, none⟩) 3 3] 36)) (.slice (some ⟨w.heap.size + 1 + 1, 0, none⟩) 2 2) [[1, 2, 5], [2, 3, 5]] := by
  have s1 : (w.alloc (.cells #[.int .i64 1, .int .i64 2, .int .i64 5] 3)).heap.size = w.heap.size + 1 := by simp
  have s2 : ((w.alloc (.cells #[.int .i64 1, .int .i64 2, .int .i64 5] 3)).alloc (.cells #[.int .i64 2, .int .i64 3, .int .i64 5] 3)).heap.size = w.heap.size + 1 + 1 := by simp
  have l1 := ((Sl.lit w 0 1 3 #[.int .i64 1, .int .i64 2, .int .i64 5] 3 (Nat.zero_le _) (by decide) rfl).alloc (.cells #[.int .i64 2, .int .i64 3, .int .i64 5] 3)).alloc (.cells #[.slice (some ⟨w.heap.size, 0, none⟩) 3 3, .slice (some ⟨w.heap.size + 1, 0, none⟩) 3 3] 36)
  have l2 := (Sl.lit (w.alloc (.cells #[.int .i64 1, .int .i64 2, .int .i64 5] 3)) 0 1 3 #[.int .i64 2, .int .i64 3, .int .i64 5] 3 (Nat.zero_le _) (by decide) rfl).alloc (.cells #[.slice (some ⟨w.heap.size, 0, none⟩) 3 3, .slice (some ⟨w.heap.size + 1, 0, none⟩) 3 3] 36)
  have l3 := Sl.lit ((w.alloc (.cells #[.int .i64 1, .int .i64 2, .int .i64 5] 3)).alloc (.cells #[.int .i64 2, .int .i64 3, .int .i64 5] 3)) 0 1 2 #[.slice (some ⟨w.heap.size, 0, none⟩) 3 3, .slice (some ⟨w.heap.size + 1, 0, none⟩) 3 3] 36 (Nat.zero_le _) (by decide) rfl
  rw [s1] at l2
  rw [s2] at l3
  refine ⟨by decide, _, 2, w.heap.size + 1 + 1, 0, rfl, by decide, fun _ => ⟨rfl, by simp⟩, fun j l hl => ?_⟩
  match j, hl with
  | 0, hl => cases hl; exact ⟨_, l3.cells 0 _ rfl, Nc.of_sl (base := 0) (l := [1, 2, 5]) l1 (by decide)⟩
  | 1, hl => cases hl; exact ⟨_, l3.cells 1 _ rfl, Nc.of_sl (base := 0) (l := [2, 3, 5]) l2 (by decide)⟩

set_option maxHeartbeats 2000000 in
set_option maxRecDepth 100000 in
theorem pawake_any (w : World) : Calls Tryz.prog 6 #[] w fun e w' => e = .returned (.bool true) ∧ Below w.heap.size w w' := by
  have P1 := Lib.hid (fun W => show Calls Tryz.prog 23 #[.string (bs [97, 61, 49])] W (fun e w' => ∃ v, e = .returned (.tuple #[v, .int .i64 0]) ∧ Sl w' W.heap.size 2 v 1 (prc [⟨[97], [49]⟩]) ∧ Below W.heap.size W w') by
    have hs : sortP [⟨[97], [49]⟩] = [⟨[97], [49]⟩] := (sortP_of (List.Perm.refl _) (by unfold Rising; decide)).symm
    refine (parse_lb [97, 61, 49] W (by decide)).mono ?_
    rintro e w' ⟨v, er, rfl, hb, hm⟩
    rw [show pairsL (parts 44 [97, 61, 49]) = some [⟨[97], [49]⟩] by decide] at hm
    simp only [hs] at hm
    rw [if_pos (by decide)] at hm
    obtain ⟨rfl, h2⟩ := hm
    exact ⟨v, rfl, h2, hb⟩)
  have hbp : bothP [[1, 2, 5], [2, 3, 5]] = [2, 5] := by decide
  have B2 := Lib.hid (fun W => both_any (.slice (some ⟨W.heap.size + 1 + 1, 0, none⟩) 2 2) [[1, 2, 5], [2, 3, 5]] _ (two_lists W) (by unfold Up; decide))
  rw [hbp] at B2
  clear hbp
  have k1 : ByteArray.mk #[97, 61, 49] = bs [97, 61, 49] := rfl
  have k2 : ByteArray.mk #[97] = bs [97] := rfl
  have k3 : ByteArray.mk #[49] = bs [49] := rfl
  go_enter Tryz.func6, Tryz.ntmps6
  go_wp2_with fail
  refine (new12 _).mono ?_
  rintro e w1 ⟨b, mh, ml, rfl, hb, ix, mm, mj, b1⟩
  have z1 := b1.size
  have hbw : b < w1.heap.size := (Array.getElem?_eq_some_iff.1 ix.box).1
  go_wp2_with fail
  with_reducible refine (P1.out _).mono ?_
  rintro e w2 ⟨sv, rfl, s2, b2⟩
  have ix2 : IxB b mh ml (.slice none 0 0) w2 := ⟨(b2.block b hbw).trans ix.box, ix.bh, ix.bl, ix.hl⟩
  have mm2 : MapIs mh [] 0 w2 := (b2.block mh (mapIs_lt mm)).trans mm
  have mj2 : MapIsJ ml [] 0 w2 := (b2.block ml (mapIsJ_lt mj)).trans mj
  have hne : ∀ k, sv.ownBlock = some k → k ≠ b := fun k hk => by have := (s2.lt k hk).1; omega
  have A3 := Lib.hid (add_first b mh ml 0 0 7 [97] [49] sv w2 ix2 mm2 mj2 (Rd.of_sl s2) hne)
  obtain ⟨sa, sc, rfl⟩ := s2.slice
  have B2w := Lib.hid (b1.trans (b2.mono z1))
  have hbz := Lib.hid hb
  clear ix mm mj b1 b2 s2 ix2 mm2 mj2 hne
  go_wp2_with fail
  refine A3.out.mono ?_
  rintro e w3 ⟨rfl, va, mi, c1, c2, vl, hmi, ix3, m1, m2, nva, nvl, t3⟩
  have z3 := t3.size
  have B3 := Lib.hid (B2w.out.trans (t3.below (by have := B2w.out.size; omega) (fun k hk => by have := hbz.out; rcases hk with e | e | e <;> omega)))
  have C0 := Lib.hid (B2.out w3)
  have hb3 : b < w3.heap.size := (Array.getElem?_eq_some_iff.1 ix3.box).1
  have h1 := mapIs_lt m1
  have h2 := mapIs_lt m2
  have s3 : (((w3.alloc (.cells #[.int .i64 1, .int .i64 2, .int .i64 5] 3)).alloc (.cells #[.int .i64 2, .int .i64 3, .int .i64 5] 3)).alloc (.cells #[.slice (some ⟨w3.heap.size, 0, none⟩) 3 3, .slice (some ⟨w3.heap.size + 1, 0, none⟩) 3 3] 36)).heap.size = w3.heap.size + 3 := by simp
  have A3b := Lib.hid (((((Below.refl w3.heap.size w3).alloc (Nat.le_refl _) (.cells #[.int .i64 1, .int .i64 2, .int .i64 5] 3)).alloc (by simp) (.cells #[.int .i64 2, .int .i64 3, .int .i64 5] 3)).alloc (by simp; omega) (.cells #[.slice (some ⟨w3.heap.size, 0, none⟩) 3 3, .slice (some ⟨w3.heap.size + 1, 0, none⟩) 3 3] 36)))
  clear A3 B2 P1 t3
  go_wp2_with fail
  refine C0.out.mono ?_
  rintro e w4 ⟨v4, rfl, s4, b4⟩
  have b4 := A3b.out.trans (b4.mono A3b.out.size)
  obtain ⟨g4, o4, k4, e4, hg4, hk4, _⟩ := s4.somewhere (by decide)
  have e4 : v4 = .slice (some ⟨g4, o4, none⟩) 2 k4 := e4
  subst e4
  have x0 : w4.cell? ⟨g4, o4, none⟩ = some (.int .i64 2) := sl_cellI s4 0 2 rfl
  have x1 : w4.cell? ⟨g4, o4 + 1, none⟩ = some (.int .i64 5) := sl_cellI s4 1 5 rfl
  have z4 := b4.size
  have G := Lib.hid (get_first b mh ml mi 0 c1 c2 va vl 7 [97] [49] w4 ⟨(b4.block b hb3).trans ix3.box, ix3.bh, ix3.bl, ix3.hl⟩ ((b4.block mh h1).trans m1) ((b4.block mi h2).trans m2) (nvl.on b4))
  have IX4 := Lib.hid (show IxB b mh ml va w4 from ⟨(b4.block b hb3).trans ix3.box, ix3.bh, ix3.bl, ix3.hl⟩)
  have NA4 := Lib.hid (nva.on b4)
  have B4 := Lib.hid (B3.out.trans (b4.mono B3.out.size))
  have hb4 : b < w4.heap.size := by omega
  have hg4w : g4 < w4.heap.size := (s4.lt g4 rfl).2
  clear ix3 m1 m2 nva nvl s4 b4 C0 A3b s3
  go_wp2_with fail
  refine G.out.mono ?_
  rintro e w5 ⟨v5, rfl, s5, b5⟩
  obtain ⟨a5, k5, e5⟩ := s5.slice
  have e5 : v5 = .slice a5 1 k5 := e5
  subst e5
  have AL := Lib.hid (all_first b mh ml va 7 w5 ⟨(b5.block b hb4).trans IX4.out.box, IX4.out.bh, IX4.out.bl, IX4.out.hl⟩ (NA4.out.on b5))
  have B5 := Lib.hid (B4.out.trans (b5.mono B4.out.size))
  clear s5 b5
  go_wp2_with fail
  refine AL.out.mono ?_
  rintro e w6 ⟨v6, rfl, s6, b6⟩
  obtain ⟨a6, k6, e6⟩ := s6.slice
  have e6 : v6 = .slice a6 1 k6 := e6
  subst e6
  go_wp2
  go_ret
  exact ⟨rfl, B5.out.trans (b6.mono B5.out.size)⟩
end Go.Proofs.YteheojiokbdgmaaGreatDoor

namespace Go.Proofs.YteheojiokbdgmaaGreatDoor
open Go.RowKit Go.Lib

theorem new_ix (w : World) : Calls Tryz.prog 17 #[] w fun e w' => ∃ b mh ml o, e = .returned (.pointer (some ⟨b, 0, none⟩)) ∧ IxW w.heap.size b mh ml (.slice none 0 0) [] [] 0 [] 0 o w' ∧ Below w.heap.size w w' := by
  classical
  refine (new12 w).mono ?_
  rintro e w' ⟨b, mh, ml, rfl, ⟨h1, h2, h3⟩, hb, m1, m2, bl⟩
  have hbw : b < w'.heap.size := (Array.getElem?_eq_some_iff.1 hb.box).1
  refine ⟨b, mh, ml, fun k => if k = b then some .box else if k = mh then some .having else if k = ml then some .labels else none, rfl, ⟨hb.box, by simp, ?_, ?_, ?_, ⟨Sl.nil _ _ _, (fun _ h => by cases h)⟩, m1, m2, (fun _ h => by cases h), (fun _ h => by cases h), List.nodup_nil, List.nodup_nil, BornK.nil _ _⟩, bl⟩
  · simp only [if_neg (fun e => hb.bh e.symm : ¬ mh = b), if_true]
  · simp only [if_neg (fun e => hb.bl e.symm : ¬ ml = b), if_neg (fun e => hb.hl e.symm : ¬ ml = mh), if_true]
  · intro k t hk
    have q1 := mapIs_lt m1
    have q2 := mapIsJ_lt m2
    by_cases e1 : k = b
    · omega
    · by_cases e2 : k = mh
      · omega
      · by_cases e3 : k = ml
        · omega
        · simp only [if_neg e1, if_neg e2, if_neg e3] at hk; cases hk

theorem lk_nilmap (w : World) (y : List UInt8) : (Instr.lookup 66 (.map none) (.string (bs y)) false).run Tryz.prog w = .ok (.slice none 0 0) w := by
  have hk := Tryz.underlying9
  have hkey : MapKept.IsKey .string (.string (bs y)) := trivial
  have hck := fun b : Bool => MapKept.run_checkKey (P := Tryz.prog) (w := w) hk hkey b 9999
  have hfk : (Instr.findKey 9 (.string (bs y)) []).run Tryz.prog w = .ok none w := MapKept.run_findKey (P := Tryz.prog) (w := w) hk (by rfl)
  simp [Instr.lookup, run_underlying Tryz.underlying66, hck, Result.andThen, hfk]

set_option maxHeartbeats 1000000 in
set_option maxRecDepth 100000 in
theorem get_any (base b mh ml ch cl : Nat) (va : Value) (A : List Int) (H : List HEn) (L : List LEn) (o : Own) (x y : List UInt8) (w : World) (h : IxW base b mh ml va A H ch L cl o w) (hl : (getH H x y).length ≤ 100000) :
    Calls Tryz.prog 9 #[.pointer (some ⟨b, 0, none⟩), .string (bs x), .string (bs y)] w (NewN w (getH H x y)) := by
  have k1 : w.cell? ⟨b, 1, none⟩ = some (.map (some mh)) := Lib.cell_of_heap h.box 1
  have l1 := lkH mh ch x h.mapH
  obtain ⟨r, v0, hr, l2, sl0⟩ : ∃ (r : Option Nat) (v0 : Value), (((lookK HEn.x x H).map fun h => Value.map (some h.mi)).getD (.map none)) = .map r ∧ (Instr.lookup 66 (.map r) (.string (bs y)) false).run Tryz.prog w = .ok v0 w ∧ ∃ t, SlO base o t w 1 v0 (getH H x y).length (ic (getH H x y)) := by
    rcases e : lookK HEn.x x H with _ | k
    · exact ⟨none, _, rfl, lk_nilmap w y, .all, by unfold getH; rw [e]; exact SlO.nil _ _ _ _ _⟩
    · have K := h.inner k (lookK_mem HEn.x e).1
      obtain ⟨v0, hv0, sl0⟩ := K.val y
      have := lkI k.mi k.ci y k.vs K.2.1
      rw [hv0] at this
      exact ⟨some k.mi, v0, rfl, this, _, by unfold getH; rw [e]; exact sl0⟩
  obtain ⟨t, sl0⟩ := sl0
  rw [hr] at l1
  have C := Lib.hid (nclone_any v0 (getH H x y) w (Nc.of_sl sl0.1 hl))
  clear h hr sl0 hl
  go_enter Tryz.func9, Tryz.ntmps9
  go_wp2_with fail
  refine C.out.mono ?_
  rintro e w1 ⟨v1, rfl, s1, b1⟩
  go_wp2
  go_ret
  exact ⟨_, rfl, s1, b1⟩

set_option maxHeartbeats 1000000 in
set_option maxRecDepth 100000 in
theorem all_any12 (base b mh ml ch cl : Nat) (va : Value) (A : List Int) (H : List HEn) (L : List LEn) (o : Own) (w : World) (h : IxW base b mh ml va A H ch L cl o w) (hl : A.length ≤ 100000) :
    Calls Tryz.prog 14 #[.pointer (some ⟨b, 0, none⟩)] w (NewN w A) := by
  have k0 : w.cell? ⟨b, 0, none⟩ = some va := Lib.cell_of_heap h.box 0
  have C := Lib.hid (nclone_any va A w (Nc.of_sl h.all.1 hl))
  clear h hl
  go_enter Tryz.func14, Tryz.ntmps14
  go_wp2_with fail
  refine C.out.mono ?_
  rintro e w1 ⟨v1, rfl, s1, b1⟩
  go_wp2
  go_ret
  exact ⟨_, rfl, s1, b1⟩
end Go.Proofs.YteheojiokbdgmaaGreatDoor
